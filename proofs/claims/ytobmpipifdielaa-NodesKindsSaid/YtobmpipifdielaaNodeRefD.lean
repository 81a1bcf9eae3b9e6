/- What kind a tree is: the document's own functions for declarations. -/
import Derived.Test.YtobmpipifdielaaNodeRefC
namespace Go.Proofs.Ytobmpipifdielaa
open Go.RowKit

def dataK (n : Int) (t : List UInt8) (l : List Kinds) : Bool := headK n t l (·.tvar) && (decide (n < l.length) && (l.drop n.toNat).all (·.con))
def classK (k n : Int) (t : List UInt8) (l : List Kinds) : Bool := headK n t l (·.pred) && (decide (n < l.length) && (if k = 35 then atK l n.toNat (·.tvar) && (l.drop (n.toNat + 1)).all (·.sig) else atK l n.toNat (·.typ) && (l.drop (n.toNat + 1)).all (·.bind)))
theorem declK_alt (k n : Int) (t : List UInt8) (l : List Kinds) : declK k n t l = if k = 31 then bindK k n t l else if k = 32 then sigK k n t l else if k = 33 then dataK n t l else if k = 35 ∨ k = 36 then classK k n t l else false := by
  unfold declK
  by_cases h1 : k = 31
  · subst h1; simp [sigK]
  by_cases h2 : k = 32
  · subst h2; simp [bindK]
  by_cases h3 : k = 33
  · subst h3; simp [dataK]
  by_cases h4 : k = 35
  · subst h4; simp [classK]
  by_cases h5 : k = 36
  · subst h5; simp [classK]
  simp [h1, h2, h3, h4, h5]
set_option maxRecDepth 100000 in
set_option maxHeartbeats 4000000 in
theorem rdata_any (t : Nd) (ht : Nd.Fit t) : ∀ (c : NC) (w : World), TreeAt w c t → Calls Try.prog 60 #[c.val] w (SaysIs (dataK t.num t.text (t.kids.map Nd.kinds)) w) := by
  intro c w h
  obtain ⟨k, ps, n, txt, kp, kl, kc⟩ := c
  obtain ⟨L, hL⟩ : ∃ L, L = t.kids.map Nd.kinds := ⟨_, rfl⟩
  have HQ : Hid ((dataK t.num t.text (t.kids.map Nd.kinds)) = (dataK n txt L)) := by
    show _ = _
    rw [hL, ← h.num, ← h.text]
  have hTx : txt.length ≤ maxLen := by have := h.text; dsimp only at this; rw [this]; exact ht.text
  have HLN : Hid (kl = t.kids.length) := h.len
  have HML : Hid (L.length = kl) := by show _ = _; rw [hL, List.length_map, HLN.out]
  have hk6 : kl ≤ 1000000 := by rw [HLN.out]; exact ht.len
  have hkc : kl ≤ kc := h.fits
  have HTL : Hid (t.kids.length ≤ 1000000) := ht.len
  have HK := Lib.hid h.kids
  have HT := Lib.hid h
  have HNUM : Hid (n = t.num) := h.num
  have HTXT : Hid (txt = t.text) := h.text
  have HL := Lib.hid hL
  dsimp only at HK
  clear h hL
  unfold NC.val
  obtain ⟨W1, hW1⟩ : ∃ W1, W1 = w.alloc (.cells #[.int .i64 k, .int .i64 ps, .int .i64 n, .string ⟨txt.toArray⟩, .slice kp kl kc] 24) := ⟨_, rfl⟩
  have HBX : Hid (NBox W1 w.heap.size ⟨k, ps, n, txt, kp, kl, kc⟩) := by rw [hW1]; exact NBox.new w ⟨k, ps, n, txt, kp, kl, kc⟩ 24
  have HB1 : Hid (Below w.heap.size w W1) := by rw [hW1]; exact (Below.refl _ w).alloc (Nat.le_refl _) _
  have hs1 : W1.heap.size = w.heap.size + 1 := by rw [hW1]; simp
  have HS1 := Lib.hid hs1
  have HW1 := Lib.hid hW1
  clear hW1 hs1
  go_enter Try.func60, Try.ntmps60
  go_upto_region 1 with fail
  rw [← HW1.out]
  clear HW1
  cases hc0 : conB txt with
  | true =>
    by_cases hng_1 : 0 ≤ n
    case neg =>
      have HR : Hid ((dataK t.num t.text (t.kids.map Nd.kinds)) = false) := by show _ = _; rw [HQ.out]; simp [dataK, headK, headK_neg, HML.out, hc0, hng_1]
      have hD1 := Below.refl W1.heap.size W1
      have hE1 := HB1.out
      obtain ⟨x0, x1, x2, x3, x4⟩ := HBX.out
      dsimp only at x0 x1 x2 x3 x4
      have HC := refcon_text txt W1 hTx
      try dsimp only at HC
      rw [hc0] at HC
      try unfold NC.val at HC
      go_wp2_with fail
      refine HC.mono ?_; rintro e W2 ⟨rfl, hC⟩
      have hD2 := hD1.trans (hC.mono hD1.size)
      have hE2 := HB1.out.trans (hD2.mono (by rw [HS1.out]; omega))
      clear HC hC hD1 hE1 x0 x1 x2 x3 x4
      obtain ⟨x0, x1, x2, x3, x4⟩ := HBX.out.same (hD2.block w.heap.size (by rw [HS1.out]; omega))
      dsimp only at x0 x1 x2 x3 x4
      go_wp2_with fail
      all_goals
        try rw [Exit.noGoto_ret]
        go_ret
        exact ⟨by rw [HR.out]; first | rfl | (refine congrArg (fun b => Ending.returned (Value.bool b)) (?_ : _ = _); simp <;> first | assumption | omega), hE2⟩
    case pos =>
      obtain ⟨m, rfl⟩ : ∃ m : Nat, n = m := ⟨n.toNat, by omega⟩
      clear hng_1
      by_cases hnlt_1 : m < kl
      case pos =>
        have hnlt_1' : (m : Int) < (kl : Int) := by omega
        have hml : m ≤ kl := by omega
        have hml' : (m : Int) ≤ (kl : Int) := by omega
        have hn0 : ¬ (m : Int) < 0 := by omega
        have hkm : ¬ kl ≤ m := by omega
        have hkm' : ¬ (kl : Int) ≤ (m : Int) := by omega
        cases hc3 : ((L.take m).drop 0).all (·.tvar) with
        | true =>
          have hz3 : (L.take m).all (·.tvar) = true := by rw [← hc3, List.drop_zero]
          cases hc4 : ((L.take kl).drop m).all (·.con) with
          | true =>
            have hz4 : (L.drop m).all (·.con) = true := by rw [← hc4, List.take_of_length_le (by rw [HML.out]; exact Nat.le_refl _)]
            have HR : Hid ((dataK t.num t.text (t.kids.map Nd.kinds)) = true) := by show _ = _; rw [HQ.out]; simp [dataK, headK, headK_neg, HML.out, hc0, hnlt_1, hml, hz3, hz4]
            have hD1 := Below.refl W1.heap.size W1
            have hE1 := HB1.out
            obtain ⟨x0, x1, x2, x3, x4⟩ := HBX.out
            dsimp only at x0 x1 x2 x3 x4
            have HC := refcon_text txt W1 hTx
            try dsimp only at HC
            rw [hc0] at HC
            try unfold NC.val at HC
            go_wp2_with fail
            refine HC.mono ?_; rintro e W2 ⟨rfl, hC⟩
            have hD2 := hD1.trans (hC.mono hD1.size)
            have hE2 := HB1.out.trans (hD2.mono (by rw [HS1.out]; omega))
            clear HC hC hD1 hE1 x0 x1 x2 x3 x4
            obtain ⟨x0, x1, x2, x3, x4⟩ := HBX.out.same (hD2.block w.heap.size (by rw [HS1.out]; omega))
            dsimp only at x0 x1 x2 x3 x4
            have HLP := Lib.hid hc3
            clear hc3
            go_wp2_with fail
            go_loopg [3] (m - 0) (fun g q wr => ∃ j : Nat, j + g = m ∧ 0 ≤ j ∧ q = .int .i64 (j : Int) ∧ Hid (((L.take m).drop j).all (·.tvar) = true) ∧ Below W1.heap.size W1 wr)
            case atStart => exact ⟨0, by omega, Nat.le_refl _, (by first | rfl | go_num), HLP.out, hD2⟩
            case round =>
              obtain ⟨j, hjg, haj, rfl, HJ, hDj⟩ := hrel
              clear hD2 hE2
              obtain ⟨W3, rfl⟩ : ∃ x : World, x = wr := ⟨_, rfl⟩
              have hD3 := hDj
              have hE3 := HB1.out.trans (hDj.mono (by rw [HS1.out]; omega))
              clear hDj x0 x1 x2 x3 x4
              cases gk with
              | zero =>
                have hlt' : ¬ (j : Int) < (m : Int) := by omega
                clear hjg haj
                obtain ⟨x0, x1, x2, x3, x4⟩ := HBX.out.same (hD3.block w.heap.size (by rw [HS1.out]; omega))
                dsimp only at x0 x1 x2 x3 x4
                have HLP := Lib.hid hc4
                clear hc4
                go_wp2_with fail
                go_loopg [4] (kl - m) (fun g q wr => ∃ j : Nat, j + g = kl ∧ m ≤ j ∧ q = .int .i64 (j : Int) ∧ Hid (((L.take kl).drop j).all (·.con) = true) ∧ Below W1.heap.size W1 wr)
                case atStart => exact ⟨m, by omega, Nat.le_refl _, (by first | rfl | go_num), HLP.out, hD3⟩
                case round =>
                  obtain ⟨j, hjg, haj, rfl, HJ, hDj⟩ := hrel
                  clear hD3 hE3
                  obtain ⟨W4, rfl⟩ : ∃ x : World, x = wr := ⟨_, rfl⟩
                  have hD4 := hDj
                  have hE4 := HB1.out.trans (hDj.mono (by rw [HS1.out]; omega))
                  clear hDj x0 x1 x2 x3 x4
                  cases gk with
                  | zero =>
                    have hlt' : ¬ (j : Int) < (kl : Int) := by omega
                    clear hjg haj
                    obtain ⟨x0, x1, x2, x3, x4⟩ := HBX.out.same (hD4.block w.heap.size (by rw [HS1.out]; omega))
                    dsimp only at x0 x1 x2 x3 x4
                    go_wp2_with fail
                    all_goals
                      try rw [Exit.noGoto_ret]
                      go_ret
                      exact ⟨by rw [HR.out]; first | rfl | (refine congrArg (fun b => Ending.returned (Value.bool b)) (?_ : _ = _); simp <;> first | assumption | omega), hE4⟩
                  | succ g =>
                    have hlt : j < kl := by omega
                    have hlt' : (j : Int) < (kl : Int) := by omega
                    have hjk : (j : Int) < (kl : Int) := by omega
                    have hjl : j < kl := by omega
                    have hj6 : (j : Int) ≤ 1000000 := by omega
                    have hjt : j < t.kids.length := by rw [← HLN.out]; exact hjl
                    obtain ⟨⟨kk, kps, kn, ktx, kkp, kkl, kkc⟩, gr, or, hpr, hgr, htr, hcr⟩ := HK.out.at j hjt
                    have HPR := Lib.hid hpr
                    have HGR := Lib.hid hgr
                    have HTR := Lib.hid htr
                    have HCR := Lib.hid hcr
                    have HKK : Hid (kk = t.kids[j].kind ∧ kn = t.kids[j].num ∧ ktx = t.kids[j].text ∧ kkl = t.kids[j].kids.length) := ⟨htr.kind, htr.num, htr.text, htr.len⟩
                    have HPS : Hid (((L.take kl).drop j).all (·.con) = (((·.con) t.kids[j].kinds) && ((L.take kl).drop (j + 1)).all (·.con))) := by
                      show _ = _
                      rw [HL.out, List.drop_eq_getElem_cons (by rw [List.length_take, List.length_map]; omega), List.all_cons, List.getElem_take, List.getElem_map]
                    have htK : Nd.Fit t.kids[j] := ht.kid (List.getElem_mem _)
                    have hTxK : ktx.length ≤ maxLen := by rw [HKK.out.2.2.1]; exact htK.text
                    have hkk6 : kkl ≤ 1000000 := by rw [HKK.out.2.2.2]; exact htK.len
                    have HKE : Hid (((·.con) t.kids[j].kinds) = (decide (kk = 34) && (decide (kn = 0) && (conB ktx && (t.kids[j].kids.map Nd.kinds).all (·.typ))))) := by
                      show _ = _
                      rw [HKK.out.1, HKK.out.2.1, HKK.out.2.2.1, Nd.kinds_eq]; rfl
                    clear hpr hgr htr hcr
                    by_cases hek34_0 : kk = 34
                    case pos =>
                      subst hek34_0
                      cases hq0 : conB ktx with
                      | true =>
                        by_cases hen0_1 : kn = 0
                        case pos =>
                          subst hen0_1
                          cases hq1 : (t.kids[j].kids.map Nd.kinds).all (·.typ) with
                          | true =>
                            have HPv : Hid (((·.con) t.kids[j].kinds) = true) := by show _ = _; rw [HKE.out]; simp [hq0, hq1]
                            have HJ2 : Hid (((L.take kl).drop (j + 1)).all (·.con) = true) := by show _ = _; have h1 := HJ.out; rw [HPS.out, HPv.out, Bool.true_and] at h1; exact h1
                            obtain ⟨x0, x1, x2, x3, x4⟩ := HBX.out.same (hD4.block w.heap.size (by rw [HS1.out]; omega))
                            dsimp only at x0 x1 x2 x3 x4
                            obtain ⟨r0, r1, r2, r3, r4⟩ := HCR.out W4 (hE4.block _ HGR.out)
                            try dsimp only at r0 r1 r2 r3 r4
                            rw [HPR.out] at x4
                            go_upto_region 12 with fail
                            obtain ⟨W5, hW5, hbb, hBb, hsb⟩ := box_of W4 ⟨34, kps, 0, ktx, kkp, kkl, kkc⟩
                            rw [← hW5]
                            have HBY := Lib.hid hbb
                            have hD5 := hD4.trans (hBb.mono hD4.size)
                            have hE5 := HB1.out.trans (hD5.mono (by rw [HS1.out]; omega))
                            have HYS : Hid (W4.heap.size < W5.heap.size) := by show _ < _; omega
                            have HYB := Lib.hid (Below.refl W5.heap.size W5)
                            clear hD4 hE4 x0 x1 x2 x3 x4 hbb hBb hsb hW5 r0 r1 r2 r3 r4
                            obtain ⟨b0, b1, b2, b3, b4⟩ := HBY.out
                            dsimp only at b0 b1 b2 b3 b4
                            obtain ⟨x0, x1, x2, x3, x4⟩ := HBX.out.same (hD5.block w.heap.size (by rw [HS1.out]; omega))
                            dsimp only at x0 x1 x2 x3 x4
                            obtain ⟨r0, r1, r2, r3, r4⟩ := HCR.out W5 (hE5.block _ HGR.out)
                            try dsimp only at r0 r1 r2 r3 r4
                            rw [HPR.out] at x4
                            have HC := refcon_text ktx W5 hTxK
                            try dsimp only at HC
                            rw [hq0] at HC
                            try unfold NC.val at HC
                            go_wp2_with fail
                            refine HC.mono ?_; rintro e W6 ⟨rfl, hC⟩
                            have hD6 := hD5.trans (hC.mono hD5.size)
                            have hE6 := HB1.out.trans (hD6.mono (by rw [HS1.out]; omega))
                            have HYB := Lib.hid (HYB.out.trans (hC.mono HYB.out.size))
                            clear b0 b1 b2 b3 b4
                            obtain ⟨b0, b1, b2, b3, b4⟩ := HBY.out.same (HYB.out.block W4.heap.size HYS.out)
                            dsimp only at b0 b1 b2 b3 b4
                            clear HC hC hD5 hE5 x0 x1 x2 x3 x4 r0 r1 r2 r3 r4
                            obtain ⟨x0, x1, x2, x3, x4⟩ := HBX.out.same (hD6.block w.heap.size (by rw [HS1.out]; omega))
                            dsimp only at x0 x1 x2 x3 x4
                            obtain ⟨r0, r1, r2, r3, r4⟩ := HCR.out W6 (hE6.block _ HGR.out)
                            try dsimp only at r0 r1 r2 r3 r4
                            rw [HPR.out] at x4
                            have HC := types_of (KidsAt.later (TreeAt.kids HTR.out) hE6) (by have := htK.len; omega) (fun t' h => ristype_any t' (htK.kid h))
                            try dsimp only at HC
                            have hcv : _ = _ := ((all_map t.kids[j].kids (·.typ)).symm : (t.kids[j].kids.all fun t => t.kinds.typ) = (t.kids[j].kids.map Nd.kinds).all (·.typ))
                            rw [hcv, hq1] at HC
                            try unfold NC.val at HC
                            go_wp2_with fail
                            refine HC.mono ?_; rintro e W7 ⟨rfl, hC⟩
                            have hD7 := hD6.trans (hC.mono hD6.size)
                            have hE7 := HB1.out.trans (hD7.mono (by rw [HS1.out]; omega))
                            have HYB := Lib.hid (HYB.out.trans (hC.mono HYB.out.size))
                            clear b0 b1 b2 b3 b4
                            obtain ⟨b0, b1, b2, b3, b4⟩ := HBY.out.same (HYB.out.block W4.heap.size HYS.out)
                            dsimp only at b0 b1 b2 b3 b4
                            clear HC hC hD6 hE6 x0 x1 x2 x3 x4 hcv r0 r1 r2 r3 r4
                            obtain ⟨x0, x1, x2, x3, x4⟩ := HBX.out.same (hD7.block w.heap.size (by rw [HS1.out]; omega))
                            dsimp only at x0 x1 x2 x3 x4
                            obtain ⟨r0, r1, r2, r3, r4⟩ := HCR.out W7 (hE7.block _ HGR.out)
                            try dsimp only at r0 r1 r2 r3 r4
                            rw [HPR.out] at x4
                            go_wp2_with fail
                            go_roundg g
                            case measure => omega
                            case rel => exact ⟨j + 1, by omega, by omega, (by go_num), HJ2, hD7⟩
                          | false =>
                            have HPv : Hid (((·.con) t.kids[j].kinds) = false) := by show _ = _; rw [HKE.out]; simp [hq0, hq1]
                            exact absurd HJ.out (by rw [HPS.out, HPv.out]; simp)
                        case neg =>
                          have HPv : Hid (((·.con) t.kids[j].kinds) = false) := by show _ = _; rw [HKE.out]; simp [hq0, hen0_1]
                          exact absurd HJ.out (by rw [HPS.out, HPv.out]; simp)
                      | false =>
                        have HPv : Hid (((·.con) t.kids[j].kinds) = false) := by show _ = _; rw [HKE.out]; simp [hq0]
                        exact absurd HJ.out (by rw [HPS.out, HPv.out]; simp)
                    case neg =>
                      have HPv : Hid (((·.con) t.kids[j].kinds) = false) := by show _ = _; rw [HKE.out]; simp [hek34_0]
                      exact absurd HJ.out (by rw [HPS.out, HPv.out]; simp)
              | succ g =>
                have hlt : j < m := by omega
                have hlt' : (j : Int) < (m : Int) := by omega
                have hjk : (j : Int) < (kl : Int) := by omega
                have hjl : j < kl := by omega
                have hj6 : (j : Int) ≤ 1000000 := by omega
                have hjt : j < t.kids.length := by rw [← HLN.out]; exact hjl
                obtain ⟨⟨kk, kps, kn, ktx, kkp, kkl, kkc⟩, gr, or, hpr, hgr, htr, hcr⟩ := HK.out.at j hjt
                have HPR := Lib.hid hpr
                have HGR := Lib.hid hgr
                have HTR := Lib.hid htr
                have HCR := Lib.hid hcr
                have HKK : Hid (kk = t.kids[j].kind ∧ kn = t.kids[j].num ∧ ktx = t.kids[j].text ∧ kkl = t.kids[j].kids.length) := ⟨htr.kind, htr.num, htr.text, htr.len⟩
                have HPS : Hid (((L.take m).drop j).all (·.tvar) = (((·.tvar) t.kids[j].kinds) && ((L.take m).drop (j + 1)).all (·.tvar))) := by
                  show _ = _
                  rw [HL.out, List.drop_eq_getElem_cons (by rw [List.length_take, List.length_map]; omega), List.all_cons, List.getElem_take, List.getElem_map]
                have htK : Nd.Fit t.kids[j] := ht.kid (List.getElem_mem _)
                have hTxK : ktx.length ≤ maxLen := by rw [HKK.out.2.2.1]; exact htK.text
                have hkk6 : kkl ≤ 1000000 := by rw [HKK.out.2.2.2]; exact htK.len
                have HKE : Hid (((·.tvar) t.kids[j].kinds) = (decide (kk = 1) && t.kids[j].kinds.typ)) := by
                  show _ = _
                  rw [HKK.out.1, Nd.kinds_eq]; rfl
                clear hpr hgr htr hcr
                by_cases hek1_0 : kk = 1
                case pos =>
                  subst hek1_0
                  cases hq0 : t.kids[j].kinds.typ with
                  | true =>
                    have HPv : Hid (((·.tvar) t.kids[j].kinds) = true) := by show _ = _; rw [HKE.out]; simp [hq0]
                    have HJ2 : Hid (((L.take m).drop (j + 1)).all (·.tvar) = true) := by show _ = _; have h1 := HJ.out; rw [HPS.out, HPv.out, Bool.true_and] at h1; exact h1
                    obtain ⟨x0, x1, x2, x3, x4⟩ := HBX.out.same (hD3.block w.heap.size (by rw [HS1.out]; omega))
                    dsimp only at x0 x1 x2 x3 x4
                    obtain ⟨r0, r1, r2, r3, r4⟩ := HCR.out W3 (hE3.block _ HGR.out)
                    try dsimp only at r0 r1 r2 r3 r4
                    rw [HPR.out] at x4
                    have HC := ristype_any _ (ht.kid (List.getElem_mem hjt)) _ W3 (HTR.out.later hE3)
                    try dsimp only at HC
                    rw [hq0] at HC
                    try unfold NC.val at HC
                    go_wp2_with fail
                    refine HC.mono ?_; rintro e W5 ⟨rfl, hC⟩
                    have hD5 := hD3.trans (hC.mono hD3.size)
                    have hE5 := HB1.out.trans (hD5.mono (by rw [HS1.out]; omega))
                    clear HC hC hD3 hE3 x0 x1 x2 x3 x4 r0 r1 r2 r3 r4
                    obtain ⟨x0, x1, x2, x3, x4⟩ := HBX.out.same (hD5.block w.heap.size (by rw [HS1.out]; omega))
                    dsimp only at x0 x1 x2 x3 x4
                    obtain ⟨r0, r1, r2, r3, r4⟩ := HCR.out W5 (hE5.block _ HGR.out)
                    try dsimp only at r0 r1 r2 r3 r4
                    rw [HPR.out] at x4
                    go_wp2_with fail
                    go_roundg g
                    case measure => omega
                    case rel => exact ⟨j + 1, by omega, by omega, (by go_num), HJ2, hD5⟩
                  | false =>
                    have HPv : Hid (((·.tvar) t.kids[j].kinds) = false) := by show _ = _; rw [HKE.out]; simp [hq0]
                    exact absurd HJ.out (by rw [HPS.out, HPv.out]; simp)
                case neg =>
                  have HPv : Hid (((·.tvar) t.kids[j].kinds) = false) := by show _ = _; rw [HKE.out]; simp [hek1_0]
                  exact absurd HJ.out (by rw [HPS.out, HPv.out]; simp)
          | false =>
            have hz4 : (L.drop m).all (·.con) = false := by rw [← hc4, List.take_of_length_le (by rw [HML.out]; exact Nat.le_refl _)]
            have HR : Hid ((dataK t.num t.text (t.kids.map Nd.kinds)) = false) := by show _ = _; rw [HQ.out]; simp [dataK, headK, headK_neg, HML.out, hc0, hnlt_1, hml, hz3, hz4]
            have hD1 := Below.refl W1.heap.size W1
            have hE1 := HB1.out
            obtain ⟨x0, x1, x2, x3, x4⟩ := HBX.out
            dsimp only at x0 x1 x2 x3 x4
            have HC := refcon_text txt W1 hTx
            try dsimp only at HC
            rw [hc0] at HC
            try unfold NC.val at HC
            go_wp2_with fail
            refine HC.mono ?_; rintro e W2 ⟨rfl, hC⟩
            have hD2 := hD1.trans (hC.mono hD1.size)
            have hE2 := HB1.out.trans (hD2.mono (by rw [HS1.out]; omega))
            clear HC hC hD1 hE1 x0 x1 x2 x3 x4
            obtain ⟨x0, x1, x2, x3, x4⟩ := HBX.out.same (hD2.block w.heap.size (by rw [HS1.out]; omega))
            dsimp only at x0 x1 x2 x3 x4
            have HLP := Lib.hid hc3
            clear hc3
            go_wp2_with fail
            go_loopg [3] (m - 0) (fun g q wr => ∃ j : Nat, j + g = m ∧ 0 ≤ j ∧ q = .int .i64 (j : Int) ∧ Hid (((L.take m).drop j).all (·.tvar) = true) ∧ Below W1.heap.size W1 wr)
            case atStart => exact ⟨0, by omega, Nat.le_refl _, (by first | rfl | go_num), HLP.out, hD2⟩
            case round =>
              obtain ⟨j, hjg, haj, rfl, HJ, hDj⟩ := hrel
              clear hD2 hE2
              obtain ⟨W3, rfl⟩ : ∃ x : World, x = wr := ⟨_, rfl⟩
              have hD3 := hDj
              have hE3 := HB1.out.trans (hDj.mono (by rw [HS1.out]; omega))
              clear hDj x0 x1 x2 x3 x4
              cases gk with
              | zero =>
                have hlt' : ¬ (j : Int) < (m : Int) := by omega
                clear hjg haj
                obtain ⟨x0, x1, x2, x3, x4⟩ := HBX.out.same (hD3.block w.heap.size (by rw [HS1.out]; omega))
                dsimp only at x0 x1 x2 x3 x4
                have HLP := Lib.hid hc4
                clear hc4
                go_wp2_with fail
                go_loopg [4] (kl - m) (fun g q wr => ∃ j : Nat, j + g = kl ∧ m ≤ j ∧ q = .int .i64 (j : Int) ∧ Hid (((L.take kl).drop j).all (·.con) = false) ∧ Below W1.heap.size W1 wr)
                case atStart => exact ⟨m, by omega, Nat.le_refl _, (by first | rfl | go_num), HLP.out, hD3⟩
                case round =>
                  obtain ⟨j, hjg, haj, rfl, HJ, hDj⟩ := hrel
                  clear hD3 hE3
                  obtain ⟨W4, rfl⟩ : ∃ x : World, x = wr := ⟨_, rfl⟩
                  have hD4 := hDj
                  have hE4 := HB1.out.trans (hDj.mono (by rw [HS1.out]; omega))
                  clear hDj x0 x1 x2 x3 x4
                  cases gk with
                  | zero =>
                    exfalso
                    have h0 := HJ.out
                    rw [List.drop_eq_nil_of_le (by rw [List.length_take, HML.out]; omega)] at h0
                    simp at h0
                  | succ g =>
                    have hlt : j < kl := by omega
                    have hlt' : (j : Int) < (kl : Int) := by omega
                    have hjk : (j : Int) < (kl : Int) := by omega
                    have hjl : j < kl := by omega
                    have hj6 : (j : Int) ≤ 1000000 := by omega
                    have hjt : j < t.kids.length := by rw [← HLN.out]; exact hjl
                    obtain ⟨⟨kk, kps, kn, ktx, kkp, kkl, kkc⟩, gr, or, hpr, hgr, htr, hcr⟩ := HK.out.at j hjt
                    have HPR := Lib.hid hpr
                    have HGR := Lib.hid hgr
                    have HTR := Lib.hid htr
                    have HCR := Lib.hid hcr
                    have HKK : Hid (kk = t.kids[j].kind ∧ kn = t.kids[j].num ∧ ktx = t.kids[j].text ∧ kkl = t.kids[j].kids.length) := ⟨htr.kind, htr.num, htr.text, htr.len⟩
                    have HPS : Hid (((L.take kl).drop j).all (·.con) = (((·.con) t.kids[j].kinds) && ((L.take kl).drop (j + 1)).all (·.con))) := by
                      show _ = _
                      rw [HL.out, List.drop_eq_getElem_cons (by rw [List.length_take, List.length_map]; omega), List.all_cons, List.getElem_take, List.getElem_map]
                    have htK : Nd.Fit t.kids[j] := ht.kid (List.getElem_mem _)
                    have hTxK : ktx.length ≤ maxLen := by rw [HKK.out.2.2.1]; exact htK.text
                    have hkk6 : kkl ≤ 1000000 := by rw [HKK.out.2.2.2]; exact htK.len
                    have HKE : Hid (((·.con) t.kids[j].kinds) = (decide (kk = 34) && (decide (kn = 0) && (conB ktx && (t.kids[j].kids.map Nd.kinds).all (·.typ))))) := by
                      show _ = _
                      rw [HKK.out.1, HKK.out.2.1, HKK.out.2.2.1, Nd.kinds_eq]; rfl
                    clear hpr hgr htr hcr
                    by_cases hek34_0 : kk = 34
                    case pos =>
                      subst hek34_0
                      cases hq0 : conB ktx with
                      | true =>
                        by_cases hen0_1 : kn = 0
                        case pos =>
                          subst hen0_1
                          cases hq1 : (t.kids[j].kids.map Nd.kinds).all (·.typ) with
                          | true =>
                            have HPv : Hid (((·.con) t.kids[j].kinds) = true) := by show _ = _; rw [HKE.out]; simp [hq0, hq1]
                            have HJ2 : Hid (((L.take kl).drop (j + 1)).all (·.con) = false) := by show _ = _; have h1 := HJ.out; rw [HPS.out, HPv.out, Bool.true_and] at h1; exact h1
                            obtain ⟨x0, x1, x2, x3, x4⟩ := HBX.out.same (hD4.block w.heap.size (by rw [HS1.out]; omega))
                            dsimp only at x0 x1 x2 x3 x4
                            obtain ⟨r0, r1, r2, r3, r4⟩ := HCR.out W4 (hE4.block _ HGR.out)
                            try dsimp only at r0 r1 r2 r3 r4
                            rw [HPR.out] at x4
                            go_upto_region 12 with fail
                            obtain ⟨W5, hW5, hbb, hBb, hsb⟩ := box_of W4 ⟨34, kps, 0, ktx, kkp, kkl, kkc⟩
                            rw [← hW5]
                            have HBY := Lib.hid hbb
                            have hD5 := hD4.trans (hBb.mono hD4.size)
                            have hE5 := HB1.out.trans (hD5.mono (by rw [HS1.out]; omega))
                            have HYS : Hid (W4.heap.size < W5.heap.size) := by show _ < _; omega
                            have HYB := Lib.hid (Below.refl W5.heap.size W5)
                            clear hD4 hE4 x0 x1 x2 x3 x4 hbb hBb hsb hW5 r0 r1 r2 r3 r4
                            obtain ⟨b0, b1, b2, b3, b4⟩ := HBY.out
                            dsimp only at b0 b1 b2 b3 b4
                            obtain ⟨x0, x1, x2, x3, x4⟩ := HBX.out.same (hD5.block w.heap.size (by rw [HS1.out]; omega))
                            dsimp only at x0 x1 x2 x3 x4
                            obtain ⟨r0, r1, r2, r3, r4⟩ := HCR.out W5 (hE5.block _ HGR.out)
                            try dsimp only at r0 r1 r2 r3 r4
                            rw [HPR.out] at x4
                            have HC := refcon_text ktx W5 hTxK
                            try dsimp only at HC
                            rw [hq0] at HC
                            try unfold NC.val at HC
                            go_wp2_with fail
                            refine HC.mono ?_; rintro e W6 ⟨rfl, hC⟩
                            have hD6 := hD5.trans (hC.mono hD5.size)
                            have hE6 := HB1.out.trans (hD6.mono (by rw [HS1.out]; omega))
                            have HYB := Lib.hid (HYB.out.trans (hC.mono HYB.out.size))
                            clear b0 b1 b2 b3 b4
                            obtain ⟨b0, b1, b2, b3, b4⟩ := HBY.out.same (HYB.out.block W4.heap.size HYS.out)
                            dsimp only at b0 b1 b2 b3 b4
                            clear HC hC hD5 hE5 x0 x1 x2 x3 x4 r0 r1 r2 r3 r4
                            obtain ⟨x0, x1, x2, x3, x4⟩ := HBX.out.same (hD6.block w.heap.size (by rw [HS1.out]; omega))
                            dsimp only at x0 x1 x2 x3 x4
                            obtain ⟨r0, r1, r2, r3, r4⟩ := HCR.out W6 (hE6.block _ HGR.out)
                            try dsimp only at r0 r1 r2 r3 r4
                            rw [HPR.out] at x4
                            have HC := types_of (KidsAt.later (TreeAt.kids HTR.out) hE6) (by have := htK.len; omega) (fun t' h => ristype_any t' (htK.kid h))
                            try dsimp only at HC
                            have hcv : _ = _ := ((all_map t.kids[j].kids (·.typ)).symm : (t.kids[j].kids.all fun t => t.kinds.typ) = (t.kids[j].kids.map Nd.kinds).all (·.typ))
                            rw [hcv, hq1] at HC
                            try unfold NC.val at HC
                            go_wp2_with fail
                            refine HC.mono ?_; rintro e W7 ⟨rfl, hC⟩
                            have hD7 := hD6.trans (hC.mono hD6.size)
                            have hE7 := HB1.out.trans (hD7.mono (by rw [HS1.out]; omega))
                            have HYB := Lib.hid (HYB.out.trans (hC.mono HYB.out.size))
                            clear b0 b1 b2 b3 b4
                            obtain ⟨b0, b1, b2, b3, b4⟩ := HBY.out.same (HYB.out.block W4.heap.size HYS.out)
                            dsimp only at b0 b1 b2 b3 b4
                            clear HC hC hD6 hE6 x0 x1 x2 x3 x4 hcv r0 r1 r2 r3 r4
                            obtain ⟨x0, x1, x2, x3, x4⟩ := HBX.out.same (hD7.block w.heap.size (by rw [HS1.out]; omega))
                            dsimp only at x0 x1 x2 x3 x4
                            obtain ⟨r0, r1, r2, r3, r4⟩ := HCR.out W7 (hE7.block _ HGR.out)
                            try dsimp only at r0 r1 r2 r3 r4
                            rw [HPR.out] at x4
                            go_wp2_with fail
                            go_roundg g
                            case measure => omega
                            case rel => exact ⟨j + 1, by omega, by omega, (by go_num), HJ2, hD7⟩
                          | false =>
                            have HPv : Hid (((·.con) t.kids[j].kinds) = false) := by show _ = _; rw [HKE.out]; simp [hq0, hq1]
                            obtain ⟨x0, x1, x2, x3, x4⟩ := HBX.out.same (hD4.block w.heap.size (by rw [HS1.out]; omega))
                            dsimp only at x0 x1 x2 x3 x4
                            obtain ⟨r0, r1, r2, r3, r4⟩ := HCR.out W4 (hE4.block _ HGR.out)
                            try dsimp only at r0 r1 r2 r3 r4
                            rw [HPR.out] at x4
                            go_upto_region 12 with fail
                            obtain ⟨W5, hW5, hbb, hBb, hsb⟩ := box_of W4 ⟨34, kps, 0, ktx, kkp, kkl, kkc⟩
                            rw [← hW5]
                            have HBY := Lib.hid hbb
                            have hD5 := hD4.trans (hBb.mono hD4.size)
                            have hE5 := HB1.out.trans (hD5.mono (by rw [HS1.out]; omega))
                            have HYS : Hid (W4.heap.size < W5.heap.size) := by show _ < _; omega
                            have HYB := Lib.hid (Below.refl W5.heap.size W5)
                            clear hD4 hE4 x0 x1 x2 x3 x4 hbb hBb hsb hW5 r0 r1 r2 r3 r4
                            obtain ⟨b0, b1, b2, b3, b4⟩ := HBY.out
                            dsimp only at b0 b1 b2 b3 b4
                            obtain ⟨x0, x1, x2, x3, x4⟩ := HBX.out.same (hD5.block w.heap.size (by rw [HS1.out]; omega))
                            dsimp only at x0 x1 x2 x3 x4
                            obtain ⟨r0, r1, r2, r3, r4⟩ := HCR.out W5 (hE5.block _ HGR.out)
                            try dsimp only at r0 r1 r2 r3 r4
                            rw [HPR.out] at x4
                            have HC := refcon_text ktx W5 hTxK
                            try dsimp only at HC
                            rw [hq0] at HC
                            try unfold NC.val at HC
                            go_wp2_with fail
                            refine HC.mono ?_; rintro e W6 ⟨rfl, hC⟩
                            have hD6 := hD5.trans (hC.mono hD5.size)
                            have hE6 := HB1.out.trans (hD6.mono (by rw [HS1.out]; omega))
                            have HYB := Lib.hid (HYB.out.trans (hC.mono HYB.out.size))
                            clear b0 b1 b2 b3 b4
                            obtain ⟨b0, b1, b2, b3, b4⟩ := HBY.out.same (HYB.out.block W4.heap.size HYS.out)
                            dsimp only at b0 b1 b2 b3 b4
                            clear HC hC hD5 hE5 x0 x1 x2 x3 x4 r0 r1 r2 r3 r4
                            obtain ⟨x0, x1, x2, x3, x4⟩ := HBX.out.same (hD6.block w.heap.size (by rw [HS1.out]; omega))
                            dsimp only at x0 x1 x2 x3 x4
                            obtain ⟨r0, r1, r2, r3, r4⟩ := HCR.out W6 (hE6.block _ HGR.out)
                            try dsimp only at r0 r1 r2 r3 r4
                            rw [HPR.out] at x4
                            have HC := types_of (KidsAt.later (TreeAt.kids HTR.out) hE6) (by have := htK.len; omega) (fun t' h => ristype_any t' (htK.kid h))
                            try dsimp only at HC
                            have hcv : _ = _ := ((all_map t.kids[j].kids (·.typ)).symm : (t.kids[j].kids.all fun t => t.kinds.typ) = (t.kids[j].kids.map Nd.kinds).all (·.typ))
                            rw [hcv, hq1] at HC
                            try unfold NC.val at HC
                            go_wp2_with fail
                            refine HC.mono ?_; rintro e W7 ⟨rfl, hC⟩
                            have hD7 := hD6.trans (hC.mono hD6.size)
                            have hE7 := HB1.out.trans (hD7.mono (by rw [HS1.out]; omega))
                            have HYB := Lib.hid (HYB.out.trans (hC.mono HYB.out.size))
                            clear b0 b1 b2 b3 b4
                            obtain ⟨b0, b1, b2, b3, b4⟩ := HBY.out.same (HYB.out.block W4.heap.size HYS.out)
                            dsimp only at b0 b1 b2 b3 b4
                            clear HC hC hD6 hE6 x0 x1 x2 x3 x4 hcv r0 r1 r2 r3 r4
                            obtain ⟨x0, x1, x2, x3, x4⟩ := HBX.out.same (hD7.block w.heap.size (by rw [HS1.out]; omega))
                            dsimp only at x0 x1 x2 x3 x4
                            obtain ⟨r0, r1, r2, r3, r4⟩ := HCR.out W7 (hE7.block _ HGR.out)
                            try dsimp only at r0 r1 r2 r3 r4
                            rw [HPR.out] at x4
                            go_wp2_with fail
                            all_goals
                              try rw [Exit.noGoto_ret]
                              go_ret
                              exact ⟨by rw [HR.out]; first | rfl | (refine congrArg (fun b => Ending.returned (Value.bool b)) (?_ : _ = _); simp <;> first | assumption | omega), hE7⟩
                        case neg =>
                          have HPv : Hid (((·.con) t.kids[j].kinds) = false) := by show _ = _; rw [HKE.out]; simp [hq0, hen0_1]
                          obtain ⟨x0, x1, x2, x3, x4⟩ := HBX.out.same (hD4.block w.heap.size (by rw [HS1.out]; omega))
                          dsimp only at x0 x1 x2 x3 x4
                          obtain ⟨r0, r1, r2, r3, r4⟩ := HCR.out W4 (hE4.block _ HGR.out)
                          try dsimp only at r0 r1 r2 r3 r4
                          rw [HPR.out] at x4
                          go_upto_region 12 with fail
                          obtain ⟨W5, hW5, hbb, hBb, hsb⟩ := box_of W4 ⟨34, kps, kn, ktx, kkp, kkl, kkc⟩
                          rw [← hW5]
                          have HBY := Lib.hid hbb
                          have hD5 := hD4.trans (hBb.mono hD4.size)
                          have hE5 := HB1.out.trans (hD5.mono (by rw [HS1.out]; omega))
                          have HYS : Hid (W4.heap.size < W5.heap.size) := by show _ < _; omega
                          have HYB := Lib.hid (Below.refl W5.heap.size W5)
                          clear hD4 hE4 x0 x1 x2 x3 x4 hbb hBb hsb hW5 r0 r1 r2 r3 r4
                          obtain ⟨b0, b1, b2, b3, b4⟩ := HBY.out
                          dsimp only at b0 b1 b2 b3 b4
                          obtain ⟨x0, x1, x2, x3, x4⟩ := HBX.out.same (hD5.block w.heap.size (by rw [HS1.out]; omega))
                          dsimp only at x0 x1 x2 x3 x4
                          obtain ⟨r0, r1, r2, r3, r4⟩ := HCR.out W5 (hE5.block _ HGR.out)
                          try dsimp only at r0 r1 r2 r3 r4
                          rw [HPR.out] at x4
                          have HC := refcon_text ktx W5 hTxK
                          try dsimp only at HC
                          rw [hq0] at HC
                          try unfold NC.val at HC
                          go_wp2_with fail
                          refine HC.mono ?_; rintro e W6 ⟨rfl, hC⟩
                          have hD6 := hD5.trans (hC.mono hD5.size)
                          have hE6 := HB1.out.trans (hD6.mono (by rw [HS1.out]; omega))
                          have HYB := Lib.hid (HYB.out.trans (hC.mono HYB.out.size))
                          clear b0 b1 b2 b3 b4
                          obtain ⟨b0, b1, b2, b3, b4⟩ := HBY.out.same (HYB.out.block W4.heap.size HYS.out)
                          dsimp only at b0 b1 b2 b3 b4
                          clear HC hC hD5 hE5 x0 x1 x2 x3 x4 r0 r1 r2 r3 r4
                          obtain ⟨x0, x1, x2, x3, x4⟩ := HBX.out.same (hD6.block w.heap.size (by rw [HS1.out]; omega))
                          dsimp only at x0 x1 x2 x3 x4
                          obtain ⟨r0, r1, r2, r3, r4⟩ := HCR.out W6 (hE6.block _ HGR.out)
                          try dsimp only at r0 r1 r2 r3 r4
                          rw [HPR.out] at x4
                          go_wp2_with fail
                          all_goals
                            try rw [Exit.noGoto_ret]
                            go_ret
                            exact ⟨by rw [HR.out]; first | rfl | (refine congrArg (fun b => Ending.returned (Value.bool b)) (?_ : _ = _); simp <;> first | assumption | omega), hE6⟩
                      | false =>
                        have HPv : Hid (((·.con) t.kids[j].kinds) = false) := by show _ = _; rw [HKE.out]; simp [hq0]
                        obtain ⟨x0, x1, x2, x3, x4⟩ := HBX.out.same (hD4.block w.heap.size (by rw [HS1.out]; omega))
                        dsimp only at x0 x1 x2 x3 x4
                        obtain ⟨r0, r1, r2, r3, r4⟩ := HCR.out W4 (hE4.block _ HGR.out)
                        try dsimp only at r0 r1 r2 r3 r4
                        rw [HPR.out] at x4
                        go_upto_region 12 with fail
                        obtain ⟨W5, hW5, hbb, hBb, hsb⟩ := box_of W4 ⟨34, kps, kn, ktx, kkp, kkl, kkc⟩
                        rw [← hW5]
                        have HBY := Lib.hid hbb
                        have hD5 := hD4.trans (hBb.mono hD4.size)
                        have hE5 := HB1.out.trans (hD5.mono (by rw [HS1.out]; omega))
                        have HYS : Hid (W4.heap.size < W5.heap.size) := by show _ < _; omega
                        have HYB := Lib.hid (Below.refl W5.heap.size W5)
                        clear hD4 hE4 x0 x1 x2 x3 x4 hbb hBb hsb hW5 r0 r1 r2 r3 r4
                        obtain ⟨b0, b1, b2, b3, b4⟩ := HBY.out
                        dsimp only at b0 b1 b2 b3 b4
                        obtain ⟨x0, x1, x2, x3, x4⟩ := HBX.out.same (hD5.block w.heap.size (by rw [HS1.out]; omega))
                        dsimp only at x0 x1 x2 x3 x4
                        obtain ⟨r0, r1, r2, r3, r4⟩ := HCR.out W5 (hE5.block _ HGR.out)
                        try dsimp only at r0 r1 r2 r3 r4
                        rw [HPR.out] at x4
                        have HC := refcon_text ktx W5 hTxK
                        try dsimp only at HC
                        rw [hq0] at HC
                        try unfold NC.val at HC
                        go_wp2_with fail
                        refine HC.mono ?_; rintro e W6 ⟨rfl, hC⟩
                        have hD6 := hD5.trans (hC.mono hD5.size)
                        have hE6 := HB1.out.trans (hD6.mono (by rw [HS1.out]; omega))
                        have HYB := Lib.hid (HYB.out.trans (hC.mono HYB.out.size))
                        clear b0 b1 b2 b3 b4
                        obtain ⟨b0, b1, b2, b3, b4⟩ := HBY.out.same (HYB.out.block W4.heap.size HYS.out)
                        dsimp only at b0 b1 b2 b3 b4
                        clear HC hC hD5 hE5 x0 x1 x2 x3 x4 r0 r1 r2 r3 r4
                        obtain ⟨x0, x1, x2, x3, x4⟩ := HBX.out.same (hD6.block w.heap.size (by rw [HS1.out]; omega))
                        dsimp only at x0 x1 x2 x3 x4
                        obtain ⟨r0, r1, r2, r3, r4⟩ := HCR.out W6 (hE6.block _ HGR.out)
                        try dsimp only at r0 r1 r2 r3 r4
                        rw [HPR.out] at x4
                        go_wp2_with fail
                        all_goals
                          try rw [Exit.noGoto_ret]
                          go_ret
                          exact ⟨by rw [HR.out]; first | rfl | (refine congrArg (fun b => Ending.returned (Value.bool b)) (?_ : _ = _); simp <;> first | assumption | omega), hE6⟩
                    case neg =>
                      have HPv : Hid (((·.con) t.kids[j].kinds) = false) := by show _ = _; rw [HKE.out]; simp [hek34_0]
                      obtain ⟨x0, x1, x2, x3, x4⟩ := HBX.out.same (hD4.block w.heap.size (by rw [HS1.out]; omega))
                      dsimp only at x0 x1 x2 x3 x4
                      obtain ⟨r0, r1, r2, r3, r4⟩ := HCR.out W4 (hE4.block _ HGR.out)
                      try dsimp only at r0 r1 r2 r3 r4
                      rw [HPR.out] at x4
                      go_upto_region 12 with fail
                      obtain ⟨W5, hW5, hbb, hBb, hsb⟩ := box_of W4 ⟨kk, kps, kn, ktx, kkp, kkl, kkc⟩
                      rw [← hW5]
                      have HBY := Lib.hid hbb
                      have hD5 := hD4.trans (hBb.mono hD4.size)
                      have hE5 := HB1.out.trans (hD5.mono (by rw [HS1.out]; omega))
                      have HYS : Hid (W4.heap.size < W5.heap.size) := by show _ < _; omega
                      have HYB := Lib.hid (Below.refl W5.heap.size W5)
                      clear hD4 hE4 x0 x1 x2 x3 x4 hbb hBb hsb hW5 r0 r1 r2 r3 r4
                      obtain ⟨b0, b1, b2, b3, b4⟩ := HBY.out
                      dsimp only at b0 b1 b2 b3 b4
                      obtain ⟨x0, x1, x2, x3, x4⟩ := HBX.out.same (hD5.block w.heap.size (by rw [HS1.out]; omega))
                      dsimp only at x0 x1 x2 x3 x4
                      obtain ⟨r0, r1, r2, r3, r4⟩ := HCR.out W5 (hE5.block _ HGR.out)
                      try dsimp only at r0 r1 r2 r3 r4
                      rw [HPR.out] at x4
                      go_wp2_with fail
                      all_goals
                        try rw [Exit.noGoto_ret]
                        go_ret
                        exact ⟨by rw [HR.out]; first | rfl | (refine congrArg (fun b => Ending.returned (Value.bool b)) (?_ : _ = _); simp <;> first | assumption | omega), hE5⟩
              | succ g =>
                have hlt : j < m := by omega
                have hlt' : (j : Int) < (m : Int) := by omega
                have hjk : (j : Int) < (kl : Int) := by omega
                have hjl : j < kl := by omega
                have hj6 : (j : Int) ≤ 1000000 := by omega
                have hjt : j < t.kids.length := by rw [← HLN.out]; exact hjl
                obtain ⟨⟨kk, kps, kn, ktx, kkp, kkl, kkc⟩, gr, or, hpr, hgr, htr, hcr⟩ := HK.out.at j hjt
                have HPR := Lib.hid hpr
                have HGR := Lib.hid hgr
                have HTR := Lib.hid htr
                have HCR := Lib.hid hcr
                have HKK : Hid (kk = t.kids[j].kind ∧ kn = t.kids[j].num ∧ ktx = t.kids[j].text ∧ kkl = t.kids[j].kids.length) := ⟨htr.kind, htr.num, htr.text, htr.len⟩
                have HPS : Hid (((L.take m).drop j).all (·.tvar) = (((·.tvar) t.kids[j].kinds) && ((L.take m).drop (j + 1)).all (·.tvar))) := by
                  show _ = _
                  rw [HL.out, List.drop_eq_getElem_cons (by rw [List.length_take, List.length_map]; omega), List.all_cons, List.getElem_take, List.getElem_map]
                have htK : Nd.Fit t.kids[j] := ht.kid (List.getElem_mem _)
                have hTxK : ktx.length ≤ maxLen := by rw [HKK.out.2.2.1]; exact htK.text
                have hkk6 : kkl ≤ 1000000 := by rw [HKK.out.2.2.2]; exact htK.len
                have HKE : Hid (((·.tvar) t.kids[j].kinds) = (decide (kk = 1) && t.kids[j].kinds.typ)) := by
                  show _ = _
                  rw [HKK.out.1, Nd.kinds_eq]; rfl
                clear hpr hgr htr hcr
                by_cases hek1_0 : kk = 1
                case pos =>
                  subst hek1_0
                  cases hq0 : t.kids[j].kinds.typ with
                  | true =>
                    have HPv : Hid (((·.tvar) t.kids[j].kinds) = true) := by show _ = _; rw [HKE.out]; simp [hq0]
                    have HJ2 : Hid (((L.take m).drop (j + 1)).all (·.tvar) = true) := by show _ = _; have h1 := HJ.out; rw [HPS.out, HPv.out, Bool.true_and] at h1; exact h1
                    obtain ⟨x0, x1, x2, x3, x4⟩ := HBX.out.same (hD3.block w.heap.size (by rw [HS1.out]; omega))
                    dsimp only at x0 x1 x2 x3 x4
                    obtain ⟨r0, r1, r2, r3, r4⟩ := HCR.out W3 (hE3.block _ HGR.out)
                    try dsimp only at r0 r1 r2 r3 r4
                    rw [HPR.out] at x4
                    have HC := ristype_any _ (ht.kid (List.getElem_mem hjt)) _ W3 (HTR.out.later hE3)
                    try dsimp only at HC
                    rw [hq0] at HC
                    try unfold NC.val at HC
                    go_wp2_with fail
                    refine HC.mono ?_; rintro e W5 ⟨rfl, hC⟩
                    have hD5 := hD3.trans (hC.mono hD3.size)
                    have hE5 := HB1.out.trans (hD5.mono (by rw [HS1.out]; omega))
                    clear HC hC hD3 hE3 x0 x1 x2 x3 x4 r0 r1 r2 r3 r4
                    obtain ⟨x0, x1, x2, x3, x4⟩ := HBX.out.same (hD5.block w.heap.size (by rw [HS1.out]; omega))
                    dsimp only at x0 x1 x2 x3 x4
                    obtain ⟨r0, r1, r2, r3, r4⟩ := HCR.out W5 (hE5.block _ HGR.out)
                    try dsimp only at r0 r1 r2 r3 r4
                    rw [HPR.out] at x4
                    go_wp2_with fail
                    go_roundg g
                    case measure => omega
                    case rel => exact ⟨j + 1, by omega, by omega, (by go_num), HJ2, hD5⟩
                  | false =>
                    have HPv : Hid (((·.tvar) t.kids[j].kinds) = false) := by show _ = _; rw [HKE.out]; simp [hq0]
                    exact absurd HJ.out (by rw [HPS.out, HPv.out]; simp)
                case neg =>
                  have HPv : Hid (((·.tvar) t.kids[j].kinds) = false) := by show _ = _; rw [HKE.out]; simp [hek1_0]
                  exact absurd HJ.out (by rw [HPS.out, HPv.out]; simp)
        | false =>
          have hz3 : (L.take m).all (·.tvar) = false := by rw [← hc3, List.drop_zero]
          have HR : Hid ((dataK t.num t.text (t.kids.map Nd.kinds)) = false) := by show _ = _; rw [HQ.out]; simp [dataK, headK, headK_neg, HML.out, hc0, hnlt_1, hml, hz3]
          have hD1 := Below.refl W1.heap.size W1
          have hE1 := HB1.out
          obtain ⟨x0, x1, x2, x3, x4⟩ := HBX.out
          dsimp only at x0 x1 x2 x3 x4
          have HC := refcon_text txt W1 hTx
          try dsimp only at HC
          rw [hc0] at HC
          try unfold NC.val at HC
          go_wp2_with fail
          refine HC.mono ?_; rintro e W2 ⟨rfl, hC⟩
          have hD2 := hD1.trans (hC.mono hD1.size)
          have hE2 := HB1.out.trans (hD2.mono (by rw [HS1.out]; omega))
          clear HC hC hD1 hE1 x0 x1 x2 x3 x4
          obtain ⟨x0, x1, x2, x3, x4⟩ := HBX.out.same (hD2.block w.heap.size (by rw [HS1.out]; omega))
          dsimp only at x0 x1 x2 x3 x4
          have HLP := Lib.hid hc3
          clear hc3
          go_wp2_with fail
          go_loopg [3] (m - 0) (fun g q wr => ∃ j : Nat, j + g = m ∧ 0 ≤ j ∧ q = .int .i64 (j : Int) ∧ Hid (((L.take m).drop j).all (·.tvar) = false) ∧ Below W1.heap.size W1 wr)
          case atStart => exact ⟨0, by omega, Nat.le_refl _, (by first | rfl | go_num), HLP.out, hD2⟩
          case round =>
            obtain ⟨j, hjg, haj, rfl, HJ, hDj⟩ := hrel
            clear hD2 hE2
            obtain ⟨W3, rfl⟩ : ∃ x : World, x = wr := ⟨_, rfl⟩
            have hD3 := hDj
            have hE3 := HB1.out.trans (hDj.mono (by rw [HS1.out]; omega))
            clear hDj x0 x1 x2 x3 x4
            cases gk with
            | zero =>
              exfalso
              have h0 := HJ.out
              rw [List.drop_eq_nil_of_le (by rw [List.length_take, HML.out]; omega)] at h0
              simp at h0
            | succ g =>
              have hlt : j < m := by omega
              have hlt' : (j : Int) < (m : Int) := by omega
              have hjk : (j : Int) < (kl : Int) := by omega
              have hjl : j < kl := by omega
              have hj6 : (j : Int) ≤ 1000000 := by omega
              have hjt : j < t.kids.length := by rw [← HLN.out]; exact hjl
              obtain ⟨⟨kk, kps, kn, ktx, kkp, kkl, kkc⟩, gr, or, hpr, hgr, htr, hcr⟩ := HK.out.at j hjt
              have HPR := Lib.hid hpr
              have HGR := Lib.hid hgr
              have HTR := Lib.hid htr
              have HCR := Lib.hid hcr
              have HKK : Hid (kk = t.kids[j].kind ∧ kn = t.kids[j].num ∧ ktx = t.kids[j].text ∧ kkl = t.kids[j].kids.length) := ⟨htr.kind, htr.num, htr.text, htr.len⟩
              have HPS : Hid (((L.take m).drop j).all (·.tvar) = (((·.tvar) t.kids[j].kinds) && ((L.take m).drop (j + 1)).all (·.tvar))) := by
                show _ = _
                rw [HL.out, List.drop_eq_getElem_cons (by rw [List.length_take, List.length_map]; omega), List.all_cons, List.getElem_take, List.getElem_map]
              have htK : Nd.Fit t.kids[j] := ht.kid (List.getElem_mem _)
              have hTxK : ktx.length ≤ maxLen := by rw [HKK.out.2.2.1]; exact htK.text
              have hkk6 : kkl ≤ 1000000 := by rw [HKK.out.2.2.2]; exact htK.len
              have HKE : Hid (((·.tvar) t.kids[j].kinds) = (decide (kk = 1) && t.kids[j].kinds.typ)) := by
                show _ = _
                rw [HKK.out.1, Nd.kinds_eq]; rfl
              clear hpr hgr htr hcr
              by_cases hek1_0 : kk = 1
              case pos =>
                subst hek1_0
                cases hq0 : t.kids[j].kinds.typ with
                | true =>
                  have HPv : Hid (((·.tvar) t.kids[j].kinds) = true) := by show _ = _; rw [HKE.out]; simp [hq0]
                  have HJ2 : Hid (((L.take m).drop (j + 1)).all (·.tvar) = false) := by show _ = _; have h1 := HJ.out; rw [HPS.out, HPv.out, Bool.true_and] at h1; exact h1
                  obtain ⟨x0, x1, x2, x3, x4⟩ := HBX.out.same (hD3.block w.heap.size (by rw [HS1.out]; omega))
                  dsimp only at x0 x1 x2 x3 x4
                  obtain ⟨r0, r1, r2, r3, r4⟩ := HCR.out W3 (hE3.block _ HGR.out)
                  try dsimp only at r0 r1 r2 r3 r4
                  rw [HPR.out] at x4
                  have HC := ristype_any _ (ht.kid (List.getElem_mem hjt)) _ W3 (HTR.out.later hE3)
                  try dsimp only at HC
                  rw [hq0] at HC
                  try unfold NC.val at HC
                  go_wp2_with fail
                  refine HC.mono ?_; rintro e W4 ⟨rfl, hC⟩
                  have hD4 := hD3.trans (hC.mono hD3.size)
                  have hE4 := HB1.out.trans (hD4.mono (by rw [HS1.out]; omega))
                  clear HC hC hD3 hE3 x0 x1 x2 x3 x4 r0 r1 r2 r3 r4
                  obtain ⟨x0, x1, x2, x3, x4⟩ := HBX.out.same (hD4.block w.heap.size (by rw [HS1.out]; omega))
                  dsimp only at x0 x1 x2 x3 x4
                  obtain ⟨r0, r1, r2, r3, r4⟩ := HCR.out W4 (hE4.block _ HGR.out)
                  try dsimp only at r0 r1 r2 r3 r4
                  rw [HPR.out] at x4
                  go_wp2_with fail
                  go_roundg g
                  case measure => omega
                  case rel => exact ⟨j + 1, by omega, by omega, (by go_num), HJ2, hD4⟩
                | false =>
                  have HPv : Hid (((·.tvar) t.kids[j].kinds) = false) := by show _ = _; rw [HKE.out]; simp [hq0]
                  obtain ⟨x0, x1, x2, x3, x4⟩ := HBX.out.same (hD3.block w.heap.size (by rw [HS1.out]; omega))
                  dsimp only at x0 x1 x2 x3 x4
                  obtain ⟨r0, r1, r2, r3, r4⟩ := HCR.out W3 (hE3.block _ HGR.out)
                  try dsimp only at r0 r1 r2 r3 r4
                  rw [HPR.out] at x4
                  have HC := ristype_any _ (ht.kid (List.getElem_mem hjt)) _ W3 (HTR.out.later hE3)
                  try dsimp only at HC
                  rw [hq0] at HC
                  try unfold NC.val at HC
                  go_wp2_with fail
                  refine HC.mono ?_; rintro e W4 ⟨rfl, hC⟩
                  have hD4 := hD3.trans (hC.mono hD3.size)
                  have hE4 := HB1.out.trans (hD4.mono (by rw [HS1.out]; omega))
                  clear HC hC hD3 hE3 x0 x1 x2 x3 x4 r0 r1 r2 r3 r4
                  obtain ⟨x0, x1, x2, x3, x4⟩ := HBX.out.same (hD4.block w.heap.size (by rw [HS1.out]; omega))
                  dsimp only at x0 x1 x2 x3 x4
                  obtain ⟨r0, r1, r2, r3, r4⟩ := HCR.out W4 (hE4.block _ HGR.out)
                  try dsimp only at r0 r1 r2 r3 r4
                  rw [HPR.out] at x4
                  go_wp2_with fail
                  all_goals
                    try rw [Exit.noGoto_ret]
                    go_ret
                    exact ⟨by rw [HR.out]; first | rfl | (refine congrArg (fun b => Ending.returned (Value.bool b)) (?_ : _ = _); simp <;> first | assumption | omega), hE4⟩
              case neg =>
                have HPv : Hid (((·.tvar) t.kids[j].kinds) = false) := by show _ = _; rw [HKE.out]; simp [hek1_0]
                obtain ⟨x0, x1, x2, x3, x4⟩ := HBX.out.same (hD3.block w.heap.size (by rw [HS1.out]; omega))
                dsimp only at x0 x1 x2 x3 x4
                obtain ⟨r0, r1, r2, r3, r4⟩ := HCR.out W3 (hE3.block _ HGR.out)
                try dsimp only at r0 r1 r2 r3 r4
                rw [HPR.out] at x4
                go_wp2_with fail
                all_goals
                  try rw [Exit.noGoto_ret]
                  go_ret
                  exact ⟨by rw [HR.out]; first | rfl | (refine congrArg (fun b => Ending.returned (Value.bool b)) (?_ : _ = _); simp <;> first | assumption | omega), hE3⟩
      case neg =>
        have hnlt_1' : ¬ (m : Int) < (kl : Int) := by omega
        have HR : Hid ((dataK t.num t.text (t.kids.map Nd.kinds)) = false) := by show _ = _; rw [HQ.out]; simp [dataK, headK, headK_neg, HML.out, hc0, hnlt_1]
        have hD1 := Below.refl W1.heap.size W1
        have hE1 := HB1.out
        obtain ⟨x0, x1, x2, x3, x4⟩ := HBX.out
        dsimp only at x0 x1 x2 x3 x4
        have HC := refcon_text txt W1 hTx
        try dsimp only at HC
        rw [hc0] at HC
        try unfold NC.val at HC
        go_wp2_with fail
        refine HC.mono ?_; rintro e W2 ⟨rfl, hC⟩
        have hD2 := hD1.trans (hC.mono hD1.size)
        have hE2 := HB1.out.trans (hD2.mono (by rw [HS1.out]; omega))
        clear HC hC hD1 hE1 x0 x1 x2 x3 x4
        obtain ⟨x0, x1, x2, x3, x4⟩ := HBX.out.same (hD2.block w.heap.size (by rw [HS1.out]; omega))
        dsimp only at x0 x1 x2 x3 x4
        go_wp2_with fail
        all_goals
          try rw [Exit.noGoto_ret]
          go_ret
          exact ⟨by rw [HR.out]; first | rfl | (refine congrArg (fun b => Ending.returned (Value.bool b)) (?_ : _ = _); simp <;> first | assumption | omega), hE2⟩
  | false =>
    have HR : Hid ((dataK t.num t.text (t.kids.map Nd.kinds)) = false) := by show _ = _; rw [HQ.out]; first | (simp [dataK, headK, headK_neg, HML.out, hc0]; done) | (have hla := hc0; simp only [Bool.and_eq_false_iff, decide_eq_false_iff_not] at hla; rcases hla with h | h <;> simp [dataK, headK, headK_neg, HML.out, hc0, h])
    have hD1 := Below.refl W1.heap.size W1
    have hE1 := HB1.out
    obtain ⟨x0, x1, x2, x3, x4⟩ := HBX.out
    dsimp only at x0 x1 x2 x3 x4
    have HC := refcon_text txt W1 hTx
    try dsimp only at HC
    rw [hc0] at HC
    try unfold NC.val at HC
    go_wp2_with fail
    refine HC.mono ?_; rintro e W2 ⟨rfl, hC⟩
    have hD2 := hD1.trans (hC.mono hD1.size)
    have hE2 := HB1.out.trans (hD2.mono (by rw [HS1.out]; omega))
    clear HC hC hD1 hE1 x0 x1 x2 x3 x4
    obtain ⟨x0, x1, x2, x3, x4⟩ := HBX.out.same (hD2.block w.heap.size (by rw [HS1.out]; omega))
    dsimp only at x0 x1 x2 x3 x4
    go_wp2_with fail
    all_goals
      try rw [Exit.noGoto_ret]
      go_ret
      exact ⟨by rw [HR.out]; first | rfl | (refine congrArg (fun b => Ending.returned (Value.bool b)) (?_ : _ = _); simp <;> first | assumption | omega), hE2⟩
set_option maxRecDepth 100000 in
set_option maxHeartbeats 4000000 in
theorem rclass_any (t : Nd) (ht : Nd.Fit t) : ∀ (c : NC) (w : World), TreeAt w c t → Calls Try.prog 61 #[c.val] w (SaysIs (classK t.kind t.num t.text (t.kids.map Nd.kinds)) w) := by
  intro c w h
  obtain ⟨k, ps, n, txt, kp, kl, kc⟩ := c
  obtain ⟨L, hL⟩ : ∃ L, L = t.kids.map Nd.kinds := ⟨_, rfl⟩
  have HQ : Hid ((classK t.kind t.num t.text (t.kids.map Nd.kinds)) = (classK k n txt L)) := by
    show _ = _
    rw [hL, ← h.kind, ← h.num, ← h.text]
  have hTx : txt.length ≤ maxLen := by have := h.text; dsimp only at this; rw [this]; exact ht.text
  have HLN : Hid (kl = t.kids.length) := h.len
  have HML : Hid (L.length = kl) := by show _ = _; rw [hL, List.length_map, HLN.out]
  have hk6 : kl ≤ 1000000 := by rw [HLN.out]; exact ht.len
  have hkc : kl ≤ kc := h.fits
  have HTL : Hid (t.kids.length ≤ 1000000) := ht.len
  have HK := Lib.hid h.kids
  have HT := Lib.hid h
  have HNUM : Hid (n = t.num) := h.num
  have HTXT : Hid (txt = t.text) := h.text
  have HL := Lib.hid hL
  dsimp only at HK
  clear h hL
  unfold NC.val
  obtain ⟨W1, hW1⟩ : ∃ W1, W1 = w.alloc (.cells #[.int .i64 k, .int .i64 ps, .int .i64 n, .string ⟨txt.toArray⟩, .slice kp kl kc] 24) := ⟨_, rfl⟩
  have HBX : Hid (NBox W1 w.heap.size ⟨k, ps, n, txt, kp, kl, kc⟩) := by rw [hW1]; exact NBox.new w ⟨k, ps, n, txt, kp, kl, kc⟩ 24
  have HB1 : Hid (Below w.heap.size w W1) := by rw [hW1]; exact (Below.refl _ w).alloc (Nat.le_refl _) _
  have hs1 : W1.heap.size = w.heap.size + 1 := by rw [hW1]; simp
  have HS1 := Lib.hid hs1
  have HW1 := Lib.hid hW1
  clear hW1 hs1
  go_enter Try.func61, Try.ntmps61
  go_upto_region 1 with fail
  rw [← HW1.out]
  clear HW1
  by_cases hk35_0 : k = 35
  case pos =>
    subst hk35_0
    cases hc0 : conB txt with
    | true =>
      by_cases hng_1 : 0 ≤ n
      case neg =>
        have HR : Hid ((classK t.kind t.num t.text (t.kids.map Nd.kinds)) = false) := by show _ = _; rw [HQ.out]; simp [classK, headK, headK_neg, HML.out, hc0, hng_1]
        have hD1 := Below.refl W1.heap.size W1
        have hE1 := HB1.out
        obtain ⟨x0, x1, x2, x3, x4⟩ := HBX.out
        dsimp only at x0 x1 x2 x3 x4
        have HC := refcon_text txt W1 hTx
        try dsimp only at HC
        rw [hc0] at HC
        try unfold NC.val at HC
        go_wp2_with fail
        refine HC.mono ?_; rintro e W2 ⟨rfl, hC⟩
        have hD2 := hD1.trans (hC.mono hD1.size)
        have hE2 := HB1.out.trans (hD2.mono (by rw [HS1.out]; omega))
        clear HC hC hD1 hE1 x0 x1 x2 x3 x4
        obtain ⟨x0, x1, x2, x3, x4⟩ := HBX.out.same (hD2.block w.heap.size (by rw [HS1.out]; omega))
        dsimp only at x0 x1 x2 x3 x4
        go_wp2_with fail
        all_goals
          try rw [Exit.noGoto_ret]
          go_ret
          exact ⟨by rw [HR.out]; first | rfl | (refine congrArg (fun b => Ending.returned (Value.bool b)) (?_ : _ = _); simp <;> first | assumption | omega), hE2⟩
      case pos =>
        obtain ⟨m, rfl⟩ : ∃ m : Nat, n = m := ⟨n.toNat, by omega⟩
        clear hng_1
        by_cases hnlt_1 : m < kl
        case pos =>
          have hnlt_1' : (m : Int) < (kl : Int) := by omega
          have hml : m ≤ kl := by omega
          have hml' : (m : Int) ≤ (kl : Int) := by omega
          have hm1 : (m : Int) + 1 ≤ (kl : Int) := by omega
          have hn0 : ¬ (m : Int) < 0 := by omega
          have hkm : ¬ kl ≤ m := by omega
          have hkm' : ¬ (kl : Int) ≤ (m : Int) := by omega
          obtain ⟨vs, hvs, -, es, -⟩ := HK.out.slice 0 m (Nat.zero_le _) (by rw [← HLN.out]; omega)
          replace es := es rfl
          rw [List.drop_zero] at hvs
          have HVS := Lib.hid hvs
          clear hvs
          cases hc3 : (L.take m).all (·.pred) with
          | true =>
            cases hc4 : atK L m (·.typ) with
            | true =>
              obtain ⟨⟨pk, pp, pn, ptx, pkp, pkl, pkc⟩, g_p, o_p, hp_p, hg_p, ht_p, hc_p⟩ := HK.out.at m (by rw [← HLN.out]; omega)
              subst hp_p
              have HG_p := Lib.hid hg_p
              have HT_p := Lib.hid ht_p
              have HC_p := Lib.hid hc_p
              clear hg_p ht_p hc_p
              have hmt : m < t.kids.length := by rw [← HLN.out]; omega
              have HKT : Hid (atK L m (·.tvar) = (decide (pk = 1) && atK L m (·.typ))) := by show _ = _; rw [HL.out, atK_map _ _ _ hmt, atK_map _ _ _ hmt, (show pk = t.kids[m].kind from HT_p.out.kind), Nd.kinds_eq]; rfl
              by_cases hkk_5 : pk = 1
              case pos =>
                subst hkk_5
                cases hc6 : ((L.take kl).drop (m + 1)).all (·.sig) with
                | true =>
                  have hz6 : (L.drop (m + 1)).all (·.sig) = true := by rw [← hc6, List.take_of_length_le (by rw [HML.out]; exact Nat.le_refl _)]
                  have HR : Hid ((classK t.kind t.num t.text (t.kids.map Nd.kinds)) = true) := by show _ = _; rw [HQ.out]; simp [classK, headK, headK_neg, HML.out, hc0, hnlt_1, hml, hc3, hc4, HKT.out, hz6]
                  have hD1 := Below.refl W1.heap.size W1
                  have hE1 := HB1.out
                  obtain ⟨x0, x1, x2, x3, x4⟩ := HBX.out
                  dsimp only at x0 x1 x2 x3 x4
                  obtain ⟨p0, p1, p2, p3, p4⟩ := HC_p.out W1 (hE1.block _ HG_p.out)
                  have HC := refcon_text txt W1 hTx
                  try dsimp only at HC
                  rw [hc0] at HC
                  try unfold NC.val at HC
                  go_wp2_with fail
                  refine HC.mono ?_; rintro e W2 ⟨rfl, hC⟩
                  have hD2 := hD1.trans (hC.mono hD1.size)
                  have hE2 := HB1.out.trans (hD2.mono (by rw [HS1.out]; omega))
                  clear HC hC hD1 hE1 x0 x1 x2 x3 x4 p0 p1 p2 p3 p4
                  obtain ⟨x0, x1, x2, x3, x4⟩ := HBX.out.same (hD2.block w.heap.size (by rw [HS1.out]; omega))
                  dsimp only at x0 x1 x2 x3 x4
                  obtain ⟨p0, p1, p2, p3, p4⟩ := HC_p.out W2 (hE2.block _ HG_p.out)
                  have HC := preds_of (HVS.out.later hE2) (by rw [List.length_take]; have := HTL.out; omega) (fun t' h => rpred_any t' (ht.kid (List.mem_of_mem_take h)))
                  try dsimp only at HC
                  have hcv : _ = _ := ((all_take_map t.kids m (·.pred)).symm.trans (by rw [HL.out]) : ((t.kids.take m).all fun t => t.kinds.pred) = (L.take m).all (·.pred))
                  rw [hcv, hc3] at HC
                  try unfold NC.val at HC
                  go_wp2_with fail
                  refine HC.mono ?_; rintro e W3 ⟨rfl, hC⟩
                  have hD3 := hD2.trans (hC.mono hD2.size)
                  have hE3 := HB1.out.trans (hD3.mono (by rw [HS1.out]; omega))
                  clear HC hC hD2 hE2 x0 x1 x2 x3 x4 hcv p0 p1 p2 p3 p4
                  obtain ⟨x0, x1, x2, x3, x4⟩ := HBX.out.same (hD3.block w.heap.size (by rw [HS1.out]; omega))
                  dsimp only at x0 x1 x2 x3 x4
                  obtain ⟨p0, p1, p2, p3, p4⟩ := HC_p.out W3 (hE3.block _ HG_p.out)
                  have HC := (ristype_any _ (ht.kid (List.getElem_mem _))) _ W3 (HT_p.out.later hE3)
                  try dsimp only at HC
                  have hcv : _ = _ := ((atK_map t.kids m (·.typ) (by rw [← HLN.out]; omega)).symm.trans (by rw [HL.out]) : (t.kids[m]'(by rw [← HLN.out]; omega)).kinds.typ = atK L m (·.typ))
                  rw [hcv, hc4] at HC
                  try unfold NC.val at HC
                  go_wp2_with fail
                  refine HC.mono ?_; rintro e W4 ⟨rfl, hC⟩
                  have hD4 := hD3.trans (hC.mono hD3.size)
                  have hE4 := HB1.out.trans (hD4.mono (by rw [HS1.out]; omega))
                  clear HC hC hD3 hE3 x0 x1 x2 x3 x4 hcv p0 p1 p2 p3 p4
                  obtain ⟨x0, x1, x2, x3, x4⟩ := HBX.out.same (hD4.block w.heap.size (by rw [HS1.out]; omega))
                  dsimp only at x0 x1 x2 x3 x4
                  obtain ⟨p0, p1, p2, p3, p4⟩ := HC_p.out W4 (hE4.block _ HG_p.out)
                  have HLP := Lib.hid hc6
                  clear hc6
                  go_wp2_with fail
                  go_loopg [4] (kl - (m + 1)) (fun g q wr => ∃ j : Nat, j + g = kl ∧ (m + 1) ≤ j ∧ q = .int .i64 (j : Int) ∧ Hid (((L.take kl).drop j).all (·.sig) = true) ∧ Below W1.heap.size W1 wr)
                  case atStart => exact ⟨(m + 1), by omega, Nat.le_refl _, (by first | rfl | go_num), HLP.out, hD4⟩
                  case round =>
                    obtain ⟨j, hjg, haj, rfl, HJ, hDj⟩ := hrel
                    clear hD4 hE4
                    obtain ⟨W5, rfl⟩ : ∃ x : World, x = wr := ⟨_, rfl⟩
                    have hD5 := hDj
                    have hE5 := HB1.out.trans (hDj.mono (by rw [HS1.out]; omega))
                    clear hDj x0 x1 x2 x3 x4 p0 p1 p2 p3 p4
                    cases gk with
                    | zero =>
                      have hlt' : ¬ (j : Int) < (kl : Int) := by omega
                      clear hjg haj
                      obtain ⟨x0, x1, x2, x3, x4⟩ := HBX.out.same (hD5.block w.heap.size (by rw [HS1.out]; omega))
                      dsimp only at x0 x1 x2 x3 x4
                      obtain ⟨p0, p1, p2, p3, p4⟩ := HC_p.out W5 (hE5.block _ HG_p.out)
                      go_wp2_with fail
                      all_goals
                        try rw [Exit.noGoto_ret]
                        go_ret
                        exact ⟨by rw [HR.out]; first | rfl | (refine congrArg (fun b => Ending.returned (Value.bool b)) (?_ : _ = _); simp <;> first | assumption | omega), hE5⟩
                    | succ g =>
                      have hlt : j < kl := by omega
                      have hlt' : (j : Int) < (kl : Int) := by omega
                      have hjk : (j : Int) < (kl : Int) := by omega
                      have hjl : j < kl := by omega
                      have hj6 : (j : Int) ≤ 1000000 := by omega
                      have hjt : j < t.kids.length := by rw [← HLN.out]; exact hjl
                      obtain ⟨⟨kk, kps, kn, ktx, kkp, kkl, kkc⟩, gr, or, hpr, hgr, htr, hcr⟩ := HK.out.at j hjt
                      obtain ⟨rfl, rfl⟩ : g_p = gr ∧ o_p = or := by injection hpr with h1; injection h1 with h1 h2; exact ⟨h1, h2⟩
                      have HGR := Lib.hid hgr
                      have HTR := Lib.hid htr
                      have HCR := Lib.hid hcr
                      have HKK : Hid (kk = t.kids[j].kind ∧ kn = t.kids[j].num ∧ ktx = t.kids[j].text ∧ kkl = t.kids[j].kids.length) := ⟨htr.kind, htr.num, htr.text, htr.len⟩
                      have HPS : Hid (((L.take kl).drop j).all (·.sig) = (((·.sig) t.kids[j].kinds) && ((L.take kl).drop (j + 1)).all (·.sig))) := by
                        show _ = _
                        rw [HL.out, List.drop_eq_getElem_cons (by rw [List.length_take, List.length_map]; omega), List.all_cons, List.getElem_take, List.getElem_map]
                      have htK : Nd.Fit t.kids[j] := ht.kid (List.getElem_mem _)
                      have hTxK : ktx.length ≤ maxLen := by rw [HKK.out.2.2.1]; exact htK.text
                      have hkk6 : kkl ≤ 1000000 := by rw [HKK.out.2.2.2]; exact htK.len
                      have HKE : Hid (((·.sig) t.kids[j].kinds) = (t.kids[j].kinds.sig)) := by
                        show _ = _
                        rfl
                      clear  hgr htr hcr
                      cases hq0 : t.kids[j].kinds.sig with
                      | true =>
                        have HPv : Hid (((·.sig) t.kids[j].kinds) = true) := by show _ = _; rw [HKE.out]; simp [hq0]
                        have HJ2 : Hid (((L.take kl).drop (j + 1)).all (·.sig) = true) := by show _ = _; have h1 := HJ.out; rw [HPS.out, HPv.out, Bool.true_and] at h1; exact h1
                        obtain ⟨x0, x1, x2, x3, x4⟩ := HBX.out.same (hD5.block w.heap.size (by rw [HS1.out]; omega))
                        dsimp only at x0 x1 x2 x3 x4
                        obtain ⟨p0, p1, p2, p3, p4⟩ := HC_p.out W5 (hE5.block _ HG_p.out)
                        obtain ⟨r0, r1, r2, r3, r4⟩ := HCR.out W5 (hE5.block _ HGR.out)
                        try dsimp only at r0 r1 r2 r3 r4
                        skip
                        have HC := rsig_any _ (ht.kid (List.getElem_mem hjt)) _ W5 (HTR.out.later hE5)
                        try dsimp only at HC
                        rw [hq0] at HC
                        try unfold NC.val at HC
                        go_wp2_with fail
                        refine HC.mono ?_; rintro e W6 ⟨rfl, hC⟩
                        have hD6 := hD5.trans (hC.mono hD5.size)
                        have hE6 := HB1.out.trans (hD6.mono (by rw [HS1.out]; omega))
                        clear HC hC hD5 hE5 x0 x1 x2 x3 x4 p0 p1 p2 p3 p4 r0 r1 r2 r3 r4
                        obtain ⟨x0, x1, x2, x3, x4⟩ := HBX.out.same (hD6.block w.heap.size (by rw [HS1.out]; omega))
                        dsimp only at x0 x1 x2 x3 x4
                        obtain ⟨p0, p1, p2, p3, p4⟩ := HC_p.out W6 (hE6.block _ HG_p.out)
                        obtain ⟨r0, r1, r2, r3, r4⟩ := HCR.out W6 (hE6.block _ HGR.out)
                        try dsimp only at r0 r1 r2 r3 r4
                        skip
                        go_wp2_with fail
                        go_roundg g
                        case measure => omega
                        case rel => exact ⟨j + 1, by omega, by omega, (by go_num), HJ2, hD6⟩
                      | false =>
                        have HPv : Hid (((·.sig) t.kids[j].kinds) = false) := by show _ = _; rw [HKE.out]; simp [hq0]
                        exact absurd HJ.out (by rw [HPS.out, HPv.out]; simp)
                | false =>
                  have hz6 : (L.drop (m + 1)).all (·.sig) = false := by rw [← hc6, List.take_of_length_le (by rw [HML.out]; exact Nat.le_refl _)]
                  have HR : Hid ((classK t.kind t.num t.text (t.kids.map Nd.kinds)) = false) := by show _ = _; rw [HQ.out]; simp [classK, headK, headK_neg, HML.out, hc0, hnlt_1, hml, hc3, hc4, HKT.out, hz6]
                  have hD1 := Below.refl W1.heap.size W1
                  have hE1 := HB1.out
                  obtain ⟨x0, x1, x2, x3, x4⟩ := HBX.out
                  dsimp only at x0 x1 x2 x3 x4
                  obtain ⟨p0, p1, p2, p3, p4⟩ := HC_p.out W1 (hE1.block _ HG_p.out)
                  have HC := refcon_text txt W1 hTx
                  try dsimp only at HC
                  rw [hc0] at HC
                  try unfold NC.val at HC
                  go_wp2_with fail
                  refine HC.mono ?_; rintro e W2 ⟨rfl, hC⟩
                  have hD2 := hD1.trans (hC.mono hD1.size)
                  have hE2 := HB1.out.trans (hD2.mono (by rw [HS1.out]; omega))
                  clear HC hC hD1 hE1 x0 x1 x2 x3 x4 p0 p1 p2 p3 p4
                  obtain ⟨x0, x1, x2, x3, x4⟩ := HBX.out.same (hD2.block w.heap.size (by rw [HS1.out]; omega))
                  dsimp only at x0 x1 x2 x3 x4
                  obtain ⟨p0, p1, p2, p3, p4⟩ := HC_p.out W2 (hE2.block _ HG_p.out)
                  have HC := preds_of (HVS.out.later hE2) (by rw [List.length_take]; have := HTL.out; omega) (fun t' h => rpred_any t' (ht.kid (List.mem_of_mem_take h)))
                  try dsimp only at HC
                  have hcv : _ = _ := ((all_take_map t.kids m (·.pred)).symm.trans (by rw [HL.out]) : ((t.kids.take m).all fun t => t.kinds.pred) = (L.take m).all (·.pred))
                  rw [hcv, hc3] at HC
                  try unfold NC.val at HC
                  go_wp2_with fail
                  refine HC.mono ?_; rintro e W3 ⟨rfl, hC⟩
                  have hD3 := hD2.trans (hC.mono hD2.size)
                  have hE3 := HB1.out.trans (hD3.mono (by rw [HS1.out]; omega))
                  clear HC hC hD2 hE2 x0 x1 x2 x3 x4 hcv p0 p1 p2 p3 p4
                  obtain ⟨x0, x1, x2, x3, x4⟩ := HBX.out.same (hD3.block w.heap.size (by rw [HS1.out]; omega))
                  dsimp only at x0 x1 x2 x3 x4
                  obtain ⟨p0, p1, p2, p3, p4⟩ := HC_p.out W3 (hE3.block _ HG_p.out)
                  have HC := (ristype_any _ (ht.kid (List.getElem_mem _))) _ W3 (HT_p.out.later hE3)
                  try dsimp only at HC
                  have hcv : _ = _ := ((atK_map t.kids m (·.typ) (by rw [← HLN.out]; omega)).symm.trans (by rw [HL.out]) : (t.kids[m]'(by rw [← HLN.out]; omega)).kinds.typ = atK L m (·.typ))
                  rw [hcv, hc4] at HC
                  try unfold NC.val at HC
                  go_wp2_with fail
                  refine HC.mono ?_; rintro e W4 ⟨rfl, hC⟩
                  have hD4 := hD3.trans (hC.mono hD3.size)
                  have hE4 := HB1.out.trans (hD4.mono (by rw [HS1.out]; omega))
                  clear HC hC hD3 hE3 x0 x1 x2 x3 x4 hcv p0 p1 p2 p3 p4
                  obtain ⟨x0, x1, x2, x3, x4⟩ := HBX.out.same (hD4.block w.heap.size (by rw [HS1.out]; omega))
                  dsimp only at x0 x1 x2 x3 x4
                  obtain ⟨p0, p1, p2, p3, p4⟩ := HC_p.out W4 (hE4.block _ HG_p.out)
                  have HLP := Lib.hid hc6
                  clear hc6
                  go_wp2_with fail
                  go_loopg [4] (kl - (m + 1)) (fun g q wr => ∃ j : Nat, j + g = kl ∧ (m + 1) ≤ j ∧ q = .int .i64 (j : Int) ∧ Hid (((L.take kl).drop j).all (·.sig) = false) ∧ Below W1.heap.size W1 wr)
                  case atStart => exact ⟨(m + 1), by omega, Nat.le_refl _, (by first | rfl | go_num), HLP.out, hD4⟩
                  case round =>
                    obtain ⟨j, hjg, haj, rfl, HJ, hDj⟩ := hrel
                    clear hD4 hE4
                    obtain ⟨W5, rfl⟩ : ∃ x : World, x = wr := ⟨_, rfl⟩
                    have hD5 := hDj
                    have hE5 := HB1.out.trans (hDj.mono (by rw [HS1.out]; omega))
                    clear hDj x0 x1 x2 x3 x4 p0 p1 p2 p3 p4
                    cases gk with
                    | zero =>
                      exfalso
                      have h0 := HJ.out
                      rw [List.drop_eq_nil_of_le (by rw [List.length_take, HML.out]; omega)] at h0
                      simp at h0
                    | succ g =>
                      have hlt : j < kl := by omega
                      have hlt' : (j : Int) < (kl : Int) := by omega
                      have hjk : (j : Int) < (kl : Int) := by omega
                      have hjl : j < kl := by omega
                      have hj6 : (j : Int) ≤ 1000000 := by omega
                      have hjt : j < t.kids.length := by rw [← HLN.out]; exact hjl
                      obtain ⟨⟨kk, kps, kn, ktx, kkp, kkl, kkc⟩, gr, or, hpr, hgr, htr, hcr⟩ := HK.out.at j hjt
                      obtain ⟨rfl, rfl⟩ : g_p = gr ∧ o_p = or := by injection hpr with h1; injection h1 with h1 h2; exact ⟨h1, h2⟩
                      have HGR := Lib.hid hgr
                      have HTR := Lib.hid htr
                      have HCR := Lib.hid hcr
                      have HKK : Hid (kk = t.kids[j].kind ∧ kn = t.kids[j].num ∧ ktx = t.kids[j].text ∧ kkl = t.kids[j].kids.length) := ⟨htr.kind, htr.num, htr.text, htr.len⟩
                      have HPS : Hid (((L.take kl).drop j).all (·.sig) = (((·.sig) t.kids[j].kinds) && ((L.take kl).drop (j + 1)).all (·.sig))) := by
                        show _ = _
                        rw [HL.out, List.drop_eq_getElem_cons (by rw [List.length_take, List.length_map]; omega), List.all_cons, List.getElem_take, List.getElem_map]
                      have htK : Nd.Fit t.kids[j] := ht.kid (List.getElem_mem _)
                      have hTxK : ktx.length ≤ maxLen := by rw [HKK.out.2.2.1]; exact htK.text
                      have hkk6 : kkl ≤ 1000000 := by rw [HKK.out.2.2.2]; exact htK.len
                      have HKE : Hid (((·.sig) t.kids[j].kinds) = (t.kids[j].kinds.sig)) := by
                        show _ = _
                        rfl
                      clear  hgr htr hcr
                      cases hq0 : t.kids[j].kinds.sig with
                      | true =>
                        have HPv : Hid (((·.sig) t.kids[j].kinds) = true) := by show _ = _; rw [HKE.out]; simp [hq0]
                        have HJ2 : Hid (((L.take kl).drop (j + 1)).all (·.sig) = false) := by show _ = _; have h1 := HJ.out; rw [HPS.out, HPv.out, Bool.true_and] at h1; exact h1
                        obtain ⟨x0, x1, x2, x3, x4⟩ := HBX.out.same (hD5.block w.heap.size (by rw [HS1.out]; omega))
                        dsimp only at x0 x1 x2 x3 x4
                        obtain ⟨p0, p1, p2, p3, p4⟩ := HC_p.out W5 (hE5.block _ HG_p.out)
                        obtain ⟨r0, r1, r2, r3, r4⟩ := HCR.out W5 (hE5.block _ HGR.out)
                        try dsimp only at r0 r1 r2 r3 r4
                        skip
                        have HC := rsig_any _ (ht.kid (List.getElem_mem hjt)) _ W5 (HTR.out.later hE5)
                        try dsimp only at HC
                        rw [hq0] at HC
                        try unfold NC.val at HC
                        go_wp2_with fail
                        refine HC.mono ?_; rintro e W6 ⟨rfl, hC⟩
                        have hD6 := hD5.trans (hC.mono hD5.size)
                        have hE6 := HB1.out.trans (hD6.mono (by rw [HS1.out]; omega))
                        clear HC hC hD5 hE5 x0 x1 x2 x3 x4 p0 p1 p2 p3 p4 r0 r1 r2 r3 r4
                        obtain ⟨x0, x1, x2, x3, x4⟩ := HBX.out.same (hD6.block w.heap.size (by rw [HS1.out]; omega))
                        dsimp only at x0 x1 x2 x3 x4
                        obtain ⟨p0, p1, p2, p3, p4⟩ := HC_p.out W6 (hE6.block _ HG_p.out)
                        obtain ⟨r0, r1, r2, r3, r4⟩ := HCR.out W6 (hE6.block _ HGR.out)
                        try dsimp only at r0 r1 r2 r3 r4
                        skip
                        go_wp2_with fail
                        go_roundg g
                        case measure => omega
                        case rel => exact ⟨j + 1, by omega, by omega, (by go_num), HJ2, hD6⟩
                      | false =>
                        have HPv : Hid (((·.sig) t.kids[j].kinds) = false) := by show _ = _; rw [HKE.out]; simp [hq0]
                        obtain ⟨x0, x1, x2, x3, x4⟩ := HBX.out.same (hD5.block w.heap.size (by rw [HS1.out]; omega))
                        dsimp only at x0 x1 x2 x3 x4
                        obtain ⟨p0, p1, p2, p3, p4⟩ := HC_p.out W5 (hE5.block _ HG_p.out)
                        obtain ⟨r0, r1, r2, r3, r4⟩ := HCR.out W5 (hE5.block _ HGR.out)
                        try dsimp only at r0 r1 r2 r3 r4
                        skip
                        have HC := rsig_any _ (ht.kid (List.getElem_mem hjt)) _ W5 (HTR.out.later hE5)
                        try dsimp only at HC
                        rw [hq0] at HC
                        try unfold NC.val at HC
                        go_wp2_with fail
                        refine HC.mono ?_; rintro e W6 ⟨rfl, hC⟩
                        have hD6 := hD5.trans (hC.mono hD5.size)
                        have hE6 := HB1.out.trans (hD6.mono (by rw [HS1.out]; omega))
                        clear HC hC hD5 hE5 x0 x1 x2 x3 x4 p0 p1 p2 p3 p4 r0 r1 r2 r3 r4
                        obtain ⟨x0, x1, x2, x3, x4⟩ := HBX.out.same (hD6.block w.heap.size (by rw [HS1.out]; omega))
                        dsimp only at x0 x1 x2 x3 x4
                        obtain ⟨p0, p1, p2, p3, p4⟩ := HC_p.out W6 (hE6.block _ HG_p.out)
                        obtain ⟨r0, r1, r2, r3, r4⟩ := HCR.out W6 (hE6.block _ HGR.out)
                        try dsimp only at r0 r1 r2 r3 r4
                        skip
                        go_wp2_with fail
                        all_goals
                          try rw [Exit.noGoto_ret]
                          go_ret
                          exact ⟨by rw [HR.out]; first | rfl | (refine congrArg (fun b => Ending.returned (Value.bool b)) (?_ : _ = _); simp <;> first | assumption | omega), hE6⟩
              case neg =>
                have HR : Hid ((classK t.kind t.num t.text (t.kids.map Nd.kinds)) = false) := by show _ = _; rw [HQ.out]; simp [classK, headK, headK_neg, HML.out, hc0, hnlt_1, hml, hc3, hc4, hkk_5, HKT.out]
                have hD1 := Below.refl W1.heap.size W1
                have hE1 := HB1.out
                obtain ⟨x0, x1, x2, x3, x4⟩ := HBX.out
                dsimp only at x0 x1 x2 x3 x4
                obtain ⟨p0, p1, p2, p3, p4⟩ := HC_p.out W1 (hE1.block _ HG_p.out)
                have HC := refcon_text txt W1 hTx
                try dsimp only at HC
                rw [hc0] at HC
                try unfold NC.val at HC
                go_wp2_with fail
                refine HC.mono ?_; rintro e W2 ⟨rfl, hC⟩
                have hD2 := hD1.trans (hC.mono hD1.size)
                have hE2 := HB1.out.trans (hD2.mono (by rw [HS1.out]; omega))
                clear HC hC hD1 hE1 x0 x1 x2 x3 x4 p0 p1 p2 p3 p4
                obtain ⟨x0, x1, x2, x3, x4⟩ := HBX.out.same (hD2.block w.heap.size (by rw [HS1.out]; omega))
                dsimp only at x0 x1 x2 x3 x4
                obtain ⟨p0, p1, p2, p3, p4⟩ := HC_p.out W2 (hE2.block _ HG_p.out)
                have HC := preds_of (HVS.out.later hE2) (by rw [List.length_take]; have := HTL.out; omega) (fun t' h => rpred_any t' (ht.kid (List.mem_of_mem_take h)))
                try dsimp only at HC
                have hcv : _ = _ := ((all_take_map t.kids m (·.pred)).symm.trans (by rw [HL.out]) : ((t.kids.take m).all fun t => t.kinds.pred) = (L.take m).all (·.pred))
                rw [hcv, hc3] at HC
                try unfold NC.val at HC
                go_wp2_with fail
                refine HC.mono ?_; rintro e W3 ⟨rfl, hC⟩
                have hD3 := hD2.trans (hC.mono hD2.size)
                have hE3 := HB1.out.trans (hD3.mono (by rw [HS1.out]; omega))
                clear HC hC hD2 hE2 x0 x1 x2 x3 x4 hcv p0 p1 p2 p3 p4
                obtain ⟨x0, x1, x2, x3, x4⟩ := HBX.out.same (hD3.block w.heap.size (by rw [HS1.out]; omega))
                dsimp only at x0 x1 x2 x3 x4
                obtain ⟨p0, p1, p2, p3, p4⟩ := HC_p.out W3 (hE3.block _ HG_p.out)
                have HC := (ristype_any _ (ht.kid (List.getElem_mem _))) _ W3 (HT_p.out.later hE3)
                try dsimp only at HC
                have hcv : _ = _ := ((atK_map t.kids m (·.typ) (by rw [← HLN.out]; omega)).symm.trans (by rw [HL.out]) : (t.kids[m]'(by rw [← HLN.out]; omega)).kinds.typ = atK L m (·.typ))
                rw [hcv, hc4] at HC
                try unfold NC.val at HC
                go_wp2_with fail
                refine HC.mono ?_; rintro e W4 ⟨rfl, hC⟩
                have hD4 := hD3.trans (hC.mono hD3.size)
                have hE4 := HB1.out.trans (hD4.mono (by rw [HS1.out]; omega))
                clear HC hC hD3 hE3 x0 x1 x2 x3 x4 hcv p0 p1 p2 p3 p4
                obtain ⟨x0, x1, x2, x3, x4⟩ := HBX.out.same (hD4.block w.heap.size (by rw [HS1.out]; omega))
                dsimp only at x0 x1 x2 x3 x4
                obtain ⟨p0, p1, p2, p3, p4⟩ := HC_p.out W4 (hE4.block _ HG_p.out)
                go_wp2_with fail
                all_goals
                  try rw [Exit.noGoto_ret]
                  go_ret
                  exact ⟨by rw [HR.out]; first | rfl | (refine congrArg (fun b => Ending.returned (Value.bool b)) (?_ : _ = _); simp <;> first | assumption | omega), hE4⟩
            | false =>
              obtain ⟨⟨pk, pp, pn, ptx, pkp, pkl, pkc⟩, g_p, o_p, hp_p, hg_p, ht_p, hc_p⟩ := HK.out.at m (by rw [← HLN.out]; omega)
              subst hp_p
              have HG_p := Lib.hid hg_p
              have HT_p := Lib.hid ht_p
              have HC_p := Lib.hid hc_p
              clear hg_p ht_p hc_p
              have hmt : m < t.kids.length := by rw [← HLN.out]; omega
              have HKT : Hid (atK L m (·.tvar) = (decide (pk = 1) && atK L m (·.typ))) := by show _ = _; rw [HL.out, atK_map _ _ _ hmt, atK_map _ _ _ hmt, (show pk = t.kids[m].kind from HT_p.out.kind), Nd.kinds_eq]; rfl
              have HR : Hid ((classK t.kind t.num t.text (t.kids.map Nd.kinds)) = false) := by show _ = _; rw [HQ.out]; simp [classK, headK, headK_neg, HML.out, hc0, hnlt_1, hml, hc3, hc4, HKT.out]
              have hD1 := Below.refl W1.heap.size W1
              have hE1 := HB1.out
              obtain ⟨x0, x1, x2, x3, x4⟩ := HBX.out
              dsimp only at x0 x1 x2 x3 x4
              obtain ⟨p0, p1, p2, p3, p4⟩ := HC_p.out W1 (hE1.block _ HG_p.out)
              have HC := refcon_text txt W1 hTx
              try dsimp only at HC
              rw [hc0] at HC
              try unfold NC.val at HC
              go_wp2_with fail
              refine HC.mono ?_; rintro e W2 ⟨rfl, hC⟩
              have hD2 := hD1.trans (hC.mono hD1.size)
              have hE2 := HB1.out.trans (hD2.mono (by rw [HS1.out]; omega))
              clear HC hC hD1 hE1 x0 x1 x2 x3 x4 p0 p1 p2 p3 p4
              obtain ⟨x0, x1, x2, x3, x4⟩ := HBX.out.same (hD2.block w.heap.size (by rw [HS1.out]; omega))
              dsimp only at x0 x1 x2 x3 x4
              obtain ⟨p0, p1, p2, p3, p4⟩ := HC_p.out W2 (hE2.block _ HG_p.out)
              have HC := preds_of (HVS.out.later hE2) (by rw [List.length_take]; have := HTL.out; omega) (fun t' h => rpred_any t' (ht.kid (List.mem_of_mem_take h)))
              try dsimp only at HC
              have hcv : _ = _ := ((all_take_map t.kids m (·.pred)).symm.trans (by rw [HL.out]) : ((t.kids.take m).all fun t => t.kinds.pred) = (L.take m).all (·.pred))
              rw [hcv, hc3] at HC
              try unfold NC.val at HC
              go_wp2_with fail
              refine HC.mono ?_; rintro e W3 ⟨rfl, hC⟩
              have hD3 := hD2.trans (hC.mono hD2.size)
              have hE3 := HB1.out.trans (hD3.mono (by rw [HS1.out]; omega))
              clear HC hC hD2 hE2 x0 x1 x2 x3 x4 hcv p0 p1 p2 p3 p4
              obtain ⟨x0, x1, x2, x3, x4⟩ := HBX.out.same (hD3.block w.heap.size (by rw [HS1.out]; omega))
              dsimp only at x0 x1 x2 x3 x4
              obtain ⟨p0, p1, p2, p3, p4⟩ := HC_p.out W3 (hE3.block _ HG_p.out)
              have HC := (ristype_any _ (ht.kid (List.getElem_mem _))) _ W3 (HT_p.out.later hE3)
              try dsimp only at HC
              have hcv : _ = _ := ((atK_map t.kids m (·.typ) (by rw [← HLN.out]; omega)).symm.trans (by rw [HL.out]) : (t.kids[m]'(by rw [← HLN.out]; omega)).kinds.typ = atK L m (·.typ))
              rw [hcv, hc4] at HC
              try unfold NC.val at HC
              go_wp2_with fail
              refine HC.mono ?_; rintro e W4 ⟨rfl, hC⟩
              have hD4 := hD3.trans (hC.mono hD3.size)
              have hE4 := HB1.out.trans (hD4.mono (by rw [HS1.out]; omega))
              clear HC hC hD3 hE3 x0 x1 x2 x3 x4 hcv p0 p1 p2 p3 p4
              obtain ⟨x0, x1, x2, x3, x4⟩ := HBX.out.same (hD4.block w.heap.size (by rw [HS1.out]; omega))
              dsimp only at x0 x1 x2 x3 x4
              obtain ⟨p0, p1, p2, p3, p4⟩ := HC_p.out W4 (hE4.block _ HG_p.out)
              go_wp2_with fail
              all_goals
                try rw [Exit.noGoto_ret]
                go_ret
                exact ⟨by rw [HR.out]; first | rfl | (refine congrArg (fun b => Ending.returned (Value.bool b)) (?_ : _ = _); simp <;> first | assumption | omega), hE4⟩
          | false =>
            have HR : Hid ((classK t.kind t.num t.text (t.kids.map Nd.kinds)) = false) := by show _ = _; rw [HQ.out]; first | (simp [classK, headK, headK_neg, HML.out, hc0, hnlt_1, hml, hc3]; done) | (have hla := hc3; simp only [Bool.and_eq_false_iff, decide_eq_false_iff_not] at hla; rcases hla with h | h <;> simp [classK, headK, headK_neg, HML.out, hc0, hnlt_1, hml, hc3, h])
            have hD1 := Below.refl W1.heap.size W1
            have hE1 := HB1.out
            obtain ⟨x0, x1, x2, x3, x4⟩ := HBX.out
            dsimp only at x0 x1 x2 x3 x4
            have HC := refcon_text txt W1 hTx
            try dsimp only at HC
            rw [hc0] at HC
            try unfold NC.val at HC
            go_wp2_with fail
            refine HC.mono ?_; rintro e W2 ⟨rfl, hC⟩
            have hD2 := hD1.trans (hC.mono hD1.size)
            have hE2 := HB1.out.trans (hD2.mono (by rw [HS1.out]; omega))
            clear HC hC hD1 hE1 x0 x1 x2 x3 x4
            obtain ⟨x0, x1, x2, x3, x4⟩ := HBX.out.same (hD2.block w.heap.size (by rw [HS1.out]; omega))
            dsimp only at x0 x1 x2 x3 x4
            have HC := preds_of (HVS.out.later hE2) (by rw [List.length_take]; have := HTL.out; omega) (fun t' h => rpred_any t' (ht.kid (List.mem_of_mem_take h)))
            try dsimp only at HC
            have hcv : _ = _ := ((all_take_map t.kids m (·.pred)).symm.trans (by rw [HL.out]) : ((t.kids.take m).all fun t => t.kinds.pred) = (L.take m).all (·.pred))
            rw [hcv, hc3] at HC
            try unfold NC.val at HC
            go_wp2_with fail
            refine HC.mono ?_; rintro e W3 ⟨rfl, hC⟩
            have hD3 := hD2.trans (hC.mono hD2.size)
            have hE3 := HB1.out.trans (hD3.mono (by rw [HS1.out]; omega))
            clear HC hC hD2 hE2 x0 x1 x2 x3 x4 hcv
            obtain ⟨x0, x1, x2, x3, x4⟩ := HBX.out.same (hD3.block w.heap.size (by rw [HS1.out]; omega))
            dsimp only at x0 x1 x2 x3 x4
            go_wp2_with fail
            all_goals
              try rw [Exit.noGoto_ret]
              go_ret
              exact ⟨by rw [HR.out]; first | rfl | (refine congrArg (fun b => Ending.returned (Value.bool b)) (?_ : _ = _); simp <;> first | assumption | omega), hE3⟩
        case neg =>
          have hnlt_1' : ¬ (m : Int) < (kl : Int) := by omega
          have HR : Hid ((classK t.kind t.num t.text (t.kids.map Nd.kinds)) = false) := by show _ = _; rw [HQ.out]; simp [classK, headK, headK_neg, HML.out, hc0, hnlt_1]
          have hD1 := Below.refl W1.heap.size W1
          have hE1 := HB1.out
          obtain ⟨x0, x1, x2, x3, x4⟩ := HBX.out
          dsimp only at x0 x1 x2 x3 x4
          have HC := refcon_text txt W1 hTx
          try dsimp only at HC
          rw [hc0] at HC
          try unfold NC.val at HC
          go_wp2_with fail
          refine HC.mono ?_; rintro e W2 ⟨rfl, hC⟩
          have hD2 := hD1.trans (hC.mono hD1.size)
          have hE2 := HB1.out.trans (hD2.mono (by rw [HS1.out]; omega))
          clear HC hC hD1 hE1 x0 x1 x2 x3 x4
          obtain ⟨x0, x1, x2, x3, x4⟩ := HBX.out.same (hD2.block w.heap.size (by rw [HS1.out]; omega))
          dsimp only at x0 x1 x2 x3 x4
          go_wp2_with fail
          all_goals
            try rw [Exit.noGoto_ret]
            go_ret
            exact ⟨by rw [HR.out]; first | rfl | (refine congrArg (fun b => Ending.returned (Value.bool b)) (?_ : _ = _); simp <;> first | assumption | omega), hE2⟩
    | false =>
      have HR : Hid ((classK t.kind t.num t.text (t.kids.map Nd.kinds)) = false) := by show _ = _; rw [HQ.out]; first | (simp [classK, headK, headK_neg, HML.out, hc0]; done) | (have hla := hc0; simp only [Bool.and_eq_false_iff, decide_eq_false_iff_not] at hla; rcases hla with h | h <;> simp [classK, headK, headK_neg, HML.out, hc0, h])
      have hD1 := Below.refl W1.heap.size W1
      have hE1 := HB1.out
      obtain ⟨x0, x1, x2, x3, x4⟩ := HBX.out
      dsimp only at x0 x1 x2 x3 x4
      have HC := refcon_text txt W1 hTx
      try dsimp only at HC
      rw [hc0] at HC
      try unfold NC.val at HC
      go_wp2_with fail
      refine HC.mono ?_; rintro e W2 ⟨rfl, hC⟩
      have hD2 := hD1.trans (hC.mono hD1.size)
      have hE2 := HB1.out.trans (hD2.mono (by rw [HS1.out]; omega))
      clear HC hC hD1 hE1 x0 x1 x2 x3 x4
      obtain ⟨x0, x1, x2, x3, x4⟩ := HBX.out.same (hD2.block w.heap.size (by rw [HS1.out]; omega))
      dsimp only at x0 x1 x2 x3 x4
      go_wp2_with fail
      all_goals
        try rw [Exit.noGoto_ret]
        go_ret
        exact ⟨by rw [HR.out]; first | rfl | (refine congrArg (fun b => Ending.returned (Value.bool b)) (?_ : _ = _); simp <;> first | assumption | omega), hE2⟩
  case neg =>
    have hkb : (k == 35) = false := by simp [hk35_0]
    cases hc1 : conB txt with
    | true =>
      by_cases hng_2 : 0 ≤ n
      case neg =>
        have HR : Hid ((classK t.kind t.num t.text (t.kids.map Nd.kinds)) = false) := by show _ = _; rw [HQ.out]; simp [classK, headK, headK_neg, HML.out, hk35_0, hc1, hng_2]
        have hD1 := Below.refl W1.heap.size W1
        have hE1 := HB1.out
        obtain ⟨x0, x1, x2, x3, x4⟩ := HBX.out
        dsimp only at x0 x1 x2 x3 x4
        have HC := refcon_text txt W1 hTx
        try dsimp only at HC
        rw [hc1] at HC
        try unfold NC.val at HC
        go_wp2_with fail
        refine HC.mono ?_; rintro e W2 ⟨rfl, hC⟩
        have hD2 := hD1.trans (hC.mono hD1.size)
        have hE2 := HB1.out.trans (hD2.mono (by rw [HS1.out]; omega))
        clear HC hC hD1 hE1 x0 x1 x2 x3 x4
        obtain ⟨x0, x1, x2, x3, x4⟩ := HBX.out.same (hD2.block w.heap.size (by rw [HS1.out]; omega))
        dsimp only at x0 x1 x2 x3 x4
        go_wp2_with fail
        all_goals
          try rw [Exit.noGoto_ret]
          go_ret
          exact ⟨by rw [HR.out]; first | rfl | (refine congrArg (fun b => Ending.returned (Value.bool b)) (?_ : _ = _); simp <;> first | assumption | omega), hE2⟩
      case pos =>
        obtain ⟨m, rfl⟩ : ∃ m : Nat, n = m := ⟨n.toNat, by omega⟩
        clear hng_2
        by_cases hnlt_2 : m < kl
        case pos =>
          have hnlt_2' : (m : Int) < (kl : Int) := by omega
          have hml : m ≤ kl := by omega
          have hml' : (m : Int) ≤ (kl : Int) := by omega
          have hm1 : (m : Int) + 1 ≤ (kl : Int) := by omega
          have hn0 : ¬ (m : Int) < 0 := by omega
          have hkm : ¬ kl ≤ m := by omega
          have hkm' : ¬ (kl : Int) ≤ (m : Int) := by omega
          obtain ⟨vs, hvs, -, es, -⟩ := HK.out.slice 0 m (Nat.zero_le _) (by rw [← HLN.out]; omega)
          replace es := es rfl
          rw [List.drop_zero] at hvs
          have HVS := Lib.hid hvs
          clear hvs
          cases hc4 : (L.take m).all (·.pred) with
          | true =>
            cases hc5 : atK L m (·.typ) with
            | true =>
              obtain ⟨⟨pk, pp, pn, ptx, pkp, pkl, pkc⟩, g_p, o_p, hp_p, hg_p, ht_p, hc_p⟩ := HK.out.at m (by rw [← HLN.out]; omega)
              subst hp_p
              have HG_p := Lib.hid hg_p
              have HT_p := Lib.hid ht_p
              have HC_p := Lib.hid hc_p
              clear hg_p ht_p hc_p
              have hmt : m < t.kids.length := by rw [← HLN.out]; omega
              have HKT : Hid (atK L m (·.tvar) = (decide (pk = 1) && atK L m (·.typ))) := by show _ = _; rw [HL.out, atK_map _ _ _ hmt, atK_map _ _ _ hmt, (show pk = t.kids[m].kind from HT_p.out.kind), Nd.kinds_eq]; rfl
              cases hc6 : ((L.take kl).drop (m + 1)).all (·.bind) with
              | true =>
                have hz6 : (L.drop (m + 1)).all (·.bind) = true := by rw [← hc6, List.take_of_length_le (by rw [HML.out]; exact Nat.le_refl _)]
                have HR : Hid ((classK t.kind t.num t.text (t.kids.map Nd.kinds)) = true) := by show _ = _; rw [HQ.out]; simp [classK, headK, headK_neg, HML.out, hk35_0, hc1, hnlt_2, hml, hc4, hc5, hz6]
                have hD1 := Below.refl W1.heap.size W1
                have hE1 := HB1.out
                obtain ⟨x0, x1, x2, x3, x4⟩ := HBX.out
                dsimp only at x0 x1 x2 x3 x4
                obtain ⟨p0, p1, p2, p3, p4⟩ := HC_p.out W1 (hE1.block _ HG_p.out)
                have HC := refcon_text txt W1 hTx
                try dsimp only at HC
                rw [hc1] at HC
                try unfold NC.val at HC
                go_wp2_with fail
                refine HC.mono ?_; rintro e W2 ⟨rfl, hC⟩
                have hD2 := hD1.trans (hC.mono hD1.size)
                have hE2 := HB1.out.trans (hD2.mono (by rw [HS1.out]; omega))
                clear HC hC hD1 hE1 x0 x1 x2 x3 x4 p0 p1 p2 p3 p4
                obtain ⟨x0, x1, x2, x3, x4⟩ := HBX.out.same (hD2.block w.heap.size (by rw [HS1.out]; omega))
                dsimp only at x0 x1 x2 x3 x4
                obtain ⟨p0, p1, p2, p3, p4⟩ := HC_p.out W2 (hE2.block _ HG_p.out)
                have HC := preds_of (HVS.out.later hE2) (by rw [List.length_take]; have := HTL.out; omega) (fun t' h => rpred_any t' (ht.kid (List.mem_of_mem_take h)))
                try dsimp only at HC
                have hcv : _ = _ := ((all_take_map t.kids m (·.pred)).symm.trans (by rw [HL.out]) : ((t.kids.take m).all fun t => t.kinds.pred) = (L.take m).all (·.pred))
                rw [hcv, hc4] at HC
                try unfold NC.val at HC
                go_wp2_with fail
                refine HC.mono ?_; rintro e W3 ⟨rfl, hC⟩
                have hD3 := hD2.trans (hC.mono hD2.size)
                have hE3 := HB1.out.trans (hD3.mono (by rw [HS1.out]; omega))
                clear HC hC hD2 hE2 x0 x1 x2 x3 x4 hcv p0 p1 p2 p3 p4
                obtain ⟨x0, x1, x2, x3, x4⟩ := HBX.out.same (hD3.block w.heap.size (by rw [HS1.out]; omega))
                dsimp only at x0 x1 x2 x3 x4
                obtain ⟨p0, p1, p2, p3, p4⟩ := HC_p.out W3 (hE3.block _ HG_p.out)
                have HC := (ristype_any _ (ht.kid (List.getElem_mem _))) _ W3 (HT_p.out.later hE3)
                try dsimp only at HC
                have hcv : _ = _ := ((atK_map t.kids m (·.typ) (by rw [← HLN.out]; omega)).symm.trans (by rw [HL.out]) : (t.kids[m]'(by rw [← HLN.out]; omega)).kinds.typ = atK L m (·.typ))
                rw [hcv, hc5] at HC
                try unfold NC.val at HC
                go_wp2_with fail
                refine HC.mono ?_; rintro e W4 ⟨rfl, hC⟩
                have hD4 := hD3.trans (hC.mono hD3.size)
                have hE4 := HB1.out.trans (hD4.mono (by rw [HS1.out]; omega))
                clear HC hC hD3 hE3 x0 x1 x2 x3 x4 hcv p0 p1 p2 p3 p4
                obtain ⟨x0, x1, x2, x3, x4⟩ := HBX.out.same (hD4.block w.heap.size (by rw [HS1.out]; omega))
                dsimp only at x0 x1 x2 x3 x4
                obtain ⟨p0, p1, p2, p3, p4⟩ := HC_p.out W4 (hE4.block _ HG_p.out)
                have HLP := Lib.hid hc6
                clear hc6
                go_wp2_with fail
                go_loopg [4] (kl - (m + 1)) (fun g q wr => ∃ j : Nat, j + g = kl ∧ (m + 1) ≤ j ∧ q = .int .i64 (j : Int) ∧ Hid (((L.take kl).drop j).all (·.bind) = true) ∧ Below W1.heap.size W1 wr)
                case atStart => exact ⟨(m + 1), by omega, Nat.le_refl _, (by first | rfl | go_num), HLP.out, hD4⟩
                case round =>
                  obtain ⟨j, hjg, haj, rfl, HJ, hDj⟩ := hrel
                  clear hD4 hE4
                  obtain ⟨W5, rfl⟩ : ∃ x : World, x = wr := ⟨_, rfl⟩
                  have hD5 := hDj
                  have hE5 := HB1.out.trans (hDj.mono (by rw [HS1.out]; omega))
                  clear hDj x0 x1 x2 x3 x4 p0 p1 p2 p3 p4
                  cases gk with
                  | zero =>
                    have hlt' : ¬ (j : Int) < (kl : Int) := by omega
                    clear hjg haj
                    obtain ⟨x0, x1, x2, x3, x4⟩ := HBX.out.same (hD5.block w.heap.size (by rw [HS1.out]; omega))
                    dsimp only at x0 x1 x2 x3 x4
                    obtain ⟨p0, p1, p2, p3, p4⟩ := HC_p.out W5 (hE5.block _ HG_p.out)
                    go_wp2_with fail
                    all_goals
                      try rw [Exit.noGoto_ret]
                      go_ret
                      exact ⟨by rw [HR.out]; first | rfl | (refine congrArg (fun b => Ending.returned (Value.bool b)) (?_ : _ = _); simp <;> first | assumption | omega), hE5⟩
                  | succ g =>
                    have hlt : j < kl := by omega
                    have hlt' : (j : Int) < (kl : Int) := by omega
                    have hjk : (j : Int) < (kl : Int) := by omega
                    have hjl : j < kl := by omega
                    have hj6 : (j : Int) ≤ 1000000 := by omega
                    have hjt : j < t.kids.length := by rw [← HLN.out]; exact hjl
                    obtain ⟨⟨kk, kps, kn, ktx, kkp, kkl, kkc⟩, gr, or, hpr, hgr, htr, hcr⟩ := HK.out.at j hjt
                    obtain ⟨rfl, rfl⟩ : g_p = gr ∧ o_p = or := by injection hpr with h1; injection h1 with h1 h2; exact ⟨h1, h2⟩
                    have HGR := Lib.hid hgr
                    have HTR := Lib.hid htr
                    have HCR := Lib.hid hcr
                    have HKK : Hid (kk = t.kids[j].kind ∧ kn = t.kids[j].num ∧ ktx = t.kids[j].text ∧ kkl = t.kids[j].kids.length) := ⟨htr.kind, htr.num, htr.text, htr.len⟩
                    have HPS : Hid (((L.take kl).drop j).all (·.bind) = (((·.bind) t.kids[j].kinds) && ((L.take kl).drop (j + 1)).all (·.bind))) := by
                      show _ = _
                      rw [HL.out, List.drop_eq_getElem_cons (by rw [List.length_take, List.length_map]; omega), List.all_cons, List.getElem_take, List.getElem_map]
                    have htK : Nd.Fit t.kids[j] := ht.kid (List.getElem_mem _)
                    have hTxK : ktx.length ≤ maxLen := by rw [HKK.out.2.2.1]; exact htK.text
                    have hkk6 : kkl ≤ 1000000 := by rw [HKK.out.2.2.2]; exact htK.len
                    have HKE : Hid (((·.bind) t.kids[j].kinds) = (t.kids[j].kinds.bind)) := by
                      show _ = _
                      rfl
                    clear  hgr htr hcr
                    cases hq0 : t.kids[j].kinds.bind with
                    | true =>
                      have HPv : Hid (((·.bind) t.kids[j].kinds) = true) := by show _ = _; rw [HKE.out]; simp [hq0]
                      have HJ2 : Hid (((L.take kl).drop (j + 1)).all (·.bind) = true) := by show _ = _; have h1 := HJ.out; rw [HPS.out, HPv.out, Bool.true_and] at h1; exact h1
                      obtain ⟨x0, x1, x2, x3, x4⟩ := HBX.out.same (hD5.block w.heap.size (by rw [HS1.out]; omega))
                      dsimp only at x0 x1 x2 x3 x4
                      obtain ⟨p0, p1, p2, p3, p4⟩ := HC_p.out W5 (hE5.block _ HG_p.out)
                      obtain ⟨r0, r1, r2, r3, r4⟩ := HCR.out W5 (hE5.block _ HGR.out)
                      try dsimp only at r0 r1 r2 r3 r4
                      skip
                      have HC := rbind_any _ (ht.kid (List.getElem_mem hjt)) _ W5 (HTR.out.later hE5)
                      try dsimp only at HC
                      rw [hq0] at HC
                      try unfold NC.val at HC
                      go_wp2_with fail
                      refine HC.mono ?_; rintro e W6 ⟨rfl, hC⟩
                      have hD6 := hD5.trans (hC.mono hD5.size)
                      have hE6 := HB1.out.trans (hD6.mono (by rw [HS1.out]; omega))
                      clear HC hC hD5 hE5 x0 x1 x2 x3 x4 p0 p1 p2 p3 p4 r0 r1 r2 r3 r4
                      obtain ⟨x0, x1, x2, x3, x4⟩ := HBX.out.same (hD6.block w.heap.size (by rw [HS1.out]; omega))
                      dsimp only at x0 x1 x2 x3 x4
                      obtain ⟨p0, p1, p2, p3, p4⟩ := HC_p.out W6 (hE6.block _ HG_p.out)
                      obtain ⟨r0, r1, r2, r3, r4⟩ := HCR.out W6 (hE6.block _ HGR.out)
                      try dsimp only at r0 r1 r2 r3 r4
                      skip
                      go_wp2_with fail
                      go_roundg g
                      case measure => omega
                      case rel => exact ⟨j + 1, by omega, by omega, (by go_num), HJ2, hD6⟩
                    | false =>
                      have HPv : Hid (((·.bind) t.kids[j].kinds) = false) := by show _ = _; rw [HKE.out]; simp [hq0]
                      exact absurd HJ.out (by rw [HPS.out, HPv.out]; simp)
              | false =>
                have hz6 : (L.drop (m + 1)).all (·.bind) = false := by rw [← hc6, List.take_of_length_le (by rw [HML.out]; exact Nat.le_refl _)]
                have HR : Hid ((classK t.kind t.num t.text (t.kids.map Nd.kinds)) = false) := by show _ = _; rw [HQ.out]; simp [classK, headK, headK_neg, HML.out, hk35_0, hc1, hnlt_2, hml, hc4, hc5, hz6]
                have hD1 := Below.refl W1.heap.size W1
                have hE1 := HB1.out
                obtain ⟨x0, x1, x2, x3, x4⟩ := HBX.out
                dsimp only at x0 x1 x2 x3 x4
                obtain ⟨p0, p1, p2, p3, p4⟩ := HC_p.out W1 (hE1.block _ HG_p.out)
                have HC := refcon_text txt W1 hTx
                try dsimp only at HC
                rw [hc1] at HC
                try unfold NC.val at HC
                go_wp2_with fail
                refine HC.mono ?_; rintro e W2 ⟨rfl, hC⟩
                have hD2 := hD1.trans (hC.mono hD1.size)
                have hE2 := HB1.out.trans (hD2.mono (by rw [HS1.out]; omega))
                clear HC hC hD1 hE1 x0 x1 x2 x3 x4 p0 p1 p2 p3 p4
                obtain ⟨x0, x1, x2, x3, x4⟩ := HBX.out.same (hD2.block w.heap.size (by rw [HS1.out]; omega))
                dsimp only at x0 x1 x2 x3 x4
                obtain ⟨p0, p1, p2, p3, p4⟩ := HC_p.out W2 (hE2.block _ HG_p.out)
                have HC := preds_of (HVS.out.later hE2) (by rw [List.length_take]; have := HTL.out; omega) (fun t' h => rpred_any t' (ht.kid (List.mem_of_mem_take h)))
                try dsimp only at HC
                have hcv : _ = _ := ((all_take_map t.kids m (·.pred)).symm.trans (by rw [HL.out]) : ((t.kids.take m).all fun t => t.kinds.pred) = (L.take m).all (·.pred))
                rw [hcv, hc4] at HC
                try unfold NC.val at HC
                go_wp2_with fail
                refine HC.mono ?_; rintro e W3 ⟨rfl, hC⟩
                have hD3 := hD2.trans (hC.mono hD2.size)
                have hE3 := HB1.out.trans (hD3.mono (by rw [HS1.out]; omega))
                clear HC hC hD2 hE2 x0 x1 x2 x3 x4 hcv p0 p1 p2 p3 p4
                obtain ⟨x0, x1, x2, x3, x4⟩ := HBX.out.same (hD3.block w.heap.size (by rw [HS1.out]; omega))
                dsimp only at x0 x1 x2 x3 x4
                obtain ⟨p0, p1, p2, p3, p4⟩ := HC_p.out W3 (hE3.block _ HG_p.out)
                have HC := (ristype_any _ (ht.kid (List.getElem_mem _))) _ W3 (HT_p.out.later hE3)
                try dsimp only at HC
                have hcv : _ = _ := ((atK_map t.kids m (·.typ) (by rw [← HLN.out]; omega)).symm.trans (by rw [HL.out]) : (t.kids[m]'(by rw [← HLN.out]; omega)).kinds.typ = atK L m (·.typ))
                rw [hcv, hc5] at HC
                try unfold NC.val at HC
                go_wp2_with fail
                refine HC.mono ?_; rintro e W4 ⟨rfl, hC⟩
                have hD4 := hD3.trans (hC.mono hD3.size)
                have hE4 := HB1.out.trans (hD4.mono (by rw [HS1.out]; omega))
                clear HC hC hD3 hE3 x0 x1 x2 x3 x4 hcv p0 p1 p2 p3 p4
                obtain ⟨x0, x1, x2, x3, x4⟩ := HBX.out.same (hD4.block w.heap.size (by rw [HS1.out]; omega))
                dsimp only at x0 x1 x2 x3 x4
                obtain ⟨p0, p1, p2, p3, p4⟩ := HC_p.out W4 (hE4.block _ HG_p.out)
                have HLP := Lib.hid hc6
                clear hc6
                go_wp2_with fail
                go_loopg [4] (kl - (m + 1)) (fun g q wr => ∃ j : Nat, j + g = kl ∧ (m + 1) ≤ j ∧ q = .int .i64 (j : Int) ∧ Hid (((L.take kl).drop j).all (·.bind) = false) ∧ Below W1.heap.size W1 wr)
                case atStart => exact ⟨(m + 1), by omega, Nat.le_refl _, (by first | rfl | go_num), HLP.out, hD4⟩
                case round =>
                  obtain ⟨j, hjg, haj, rfl, HJ, hDj⟩ := hrel
                  clear hD4 hE4
                  obtain ⟨W5, rfl⟩ : ∃ x : World, x = wr := ⟨_, rfl⟩
                  have hD5 := hDj
                  have hE5 := HB1.out.trans (hDj.mono (by rw [HS1.out]; omega))
                  clear hDj x0 x1 x2 x3 x4 p0 p1 p2 p3 p4
                  cases gk with
                  | zero =>
                    exfalso
                    have h0 := HJ.out
                    rw [List.drop_eq_nil_of_le (by rw [List.length_take, HML.out]; omega)] at h0
                    simp at h0
                  | succ g =>
                    have hlt : j < kl := by omega
                    have hlt' : (j : Int) < (kl : Int) := by omega
                    have hjk : (j : Int) < (kl : Int) := by omega
                    have hjl : j < kl := by omega
                    have hj6 : (j : Int) ≤ 1000000 := by omega
                    have hjt : j < t.kids.length := by rw [← HLN.out]; exact hjl
                    obtain ⟨⟨kk, kps, kn, ktx, kkp, kkl, kkc⟩, gr, or, hpr, hgr, htr, hcr⟩ := HK.out.at j hjt
                    obtain ⟨rfl, rfl⟩ : g_p = gr ∧ o_p = or := by injection hpr with h1; injection h1 with h1 h2; exact ⟨h1, h2⟩
                    have HGR := Lib.hid hgr
                    have HTR := Lib.hid htr
                    have HCR := Lib.hid hcr
                    have HKK : Hid (kk = t.kids[j].kind ∧ kn = t.kids[j].num ∧ ktx = t.kids[j].text ∧ kkl = t.kids[j].kids.length) := ⟨htr.kind, htr.num, htr.text, htr.len⟩
                    have HPS : Hid (((L.take kl).drop j).all (·.bind) = (((·.bind) t.kids[j].kinds) && ((L.take kl).drop (j + 1)).all (·.bind))) := by
                      show _ = _
                      rw [HL.out, List.drop_eq_getElem_cons (by rw [List.length_take, List.length_map]; omega), List.all_cons, List.getElem_take, List.getElem_map]
                    have htK : Nd.Fit t.kids[j] := ht.kid (List.getElem_mem _)
                    have hTxK : ktx.length ≤ maxLen := by rw [HKK.out.2.2.1]; exact htK.text
                    have hkk6 : kkl ≤ 1000000 := by rw [HKK.out.2.2.2]; exact htK.len
                    have HKE : Hid (((·.bind) t.kids[j].kinds) = (t.kids[j].kinds.bind)) := by
                      show _ = _
                      rfl
                    clear  hgr htr hcr
                    cases hq0 : t.kids[j].kinds.bind with
                    | true =>
                      have HPv : Hid (((·.bind) t.kids[j].kinds) = true) := by show _ = _; rw [HKE.out]; simp [hq0]
                      have HJ2 : Hid (((L.take kl).drop (j + 1)).all (·.bind) = false) := by show _ = _; have h1 := HJ.out; rw [HPS.out, HPv.out, Bool.true_and] at h1; exact h1
                      obtain ⟨x0, x1, x2, x3, x4⟩ := HBX.out.same (hD5.block w.heap.size (by rw [HS1.out]; omega))
                      dsimp only at x0 x1 x2 x3 x4
                      obtain ⟨p0, p1, p2, p3, p4⟩ := HC_p.out W5 (hE5.block _ HG_p.out)
                      obtain ⟨r0, r1, r2, r3, r4⟩ := HCR.out W5 (hE5.block _ HGR.out)
                      try dsimp only at r0 r1 r2 r3 r4
                      skip
                      have HC := rbind_any _ (ht.kid (List.getElem_mem hjt)) _ W5 (HTR.out.later hE5)
                      try dsimp only at HC
                      rw [hq0] at HC
                      try unfold NC.val at HC
                      go_wp2_with fail
                      refine HC.mono ?_; rintro e W6 ⟨rfl, hC⟩
                      have hD6 := hD5.trans (hC.mono hD5.size)
                      have hE6 := HB1.out.trans (hD6.mono (by rw [HS1.out]; omega))
                      clear HC hC hD5 hE5 x0 x1 x2 x3 x4 p0 p1 p2 p3 p4 r0 r1 r2 r3 r4
                      obtain ⟨x0, x1, x2, x3, x4⟩ := HBX.out.same (hD6.block w.heap.size (by rw [HS1.out]; omega))
                      dsimp only at x0 x1 x2 x3 x4
                      obtain ⟨p0, p1, p2, p3, p4⟩ := HC_p.out W6 (hE6.block _ HG_p.out)
                      obtain ⟨r0, r1, r2, r3, r4⟩ := HCR.out W6 (hE6.block _ HGR.out)
                      try dsimp only at r0 r1 r2 r3 r4
                      skip
                      go_wp2_with fail
                      go_roundg g
                      case measure => omega
                      case rel => exact ⟨j + 1, by omega, by omega, (by go_num), HJ2, hD6⟩
                    | false =>
                      have HPv : Hid (((·.bind) t.kids[j].kinds) = false) := by show _ = _; rw [HKE.out]; simp [hq0]
                      obtain ⟨x0, x1, x2, x3, x4⟩ := HBX.out.same (hD5.block w.heap.size (by rw [HS1.out]; omega))
                      dsimp only at x0 x1 x2 x3 x4
                      obtain ⟨p0, p1, p2, p3, p4⟩ := HC_p.out W5 (hE5.block _ HG_p.out)
                      obtain ⟨r0, r1, r2, r3, r4⟩ := HCR.out W5 (hE5.block _ HGR.out)
                      try dsimp only at r0 r1 r2 r3 r4
                      skip
                      have HC := rbind_any _ (ht.kid (List.getElem_mem hjt)) _ W5 (HTR.out.later hE5)
                      try dsimp only at HC
                      rw [hq0] at HC
                      try unfold NC.val at HC
                      go_wp2_with fail
                      refine HC.mono ?_; rintro e W6 ⟨rfl, hC⟩
                      have hD6 := hD5.trans (hC.mono hD5.size)
                      have hE6 := HB1.out.trans (hD6.mono (by rw [HS1.out]; omega))
                      clear HC hC hD5 hE5 x0 x1 x2 x3 x4 p0 p1 p2 p3 p4 r0 r1 r2 r3 r4
                      obtain ⟨x0, x1, x2, x3, x4⟩ := HBX.out.same (hD6.block w.heap.size (by rw [HS1.out]; omega))
                      dsimp only at x0 x1 x2 x3 x4
                      obtain ⟨p0, p1, p2, p3, p4⟩ := HC_p.out W6 (hE6.block _ HG_p.out)
                      obtain ⟨r0, r1, r2, r3, r4⟩ := HCR.out W6 (hE6.block _ HGR.out)
                      try dsimp only at r0 r1 r2 r3 r4
                      skip
                      go_wp2_with fail
                      all_goals
                        try rw [Exit.noGoto_ret]
                        go_ret
                        exact ⟨by rw [HR.out]; first | rfl | (refine congrArg (fun b => Ending.returned (Value.bool b)) (?_ : _ = _); simp <;> first | assumption | omega), hE6⟩
            | false =>
              obtain ⟨⟨pk, pp, pn, ptx, pkp, pkl, pkc⟩, g_p, o_p, hp_p, hg_p, ht_p, hc_p⟩ := HK.out.at m (by rw [← HLN.out]; omega)
              subst hp_p
              have HG_p := Lib.hid hg_p
              have HT_p := Lib.hid ht_p
              have HC_p := Lib.hid hc_p
              clear hg_p ht_p hc_p
              have hmt : m < t.kids.length := by rw [← HLN.out]; omega
              have HKT : Hid (atK L m (·.tvar) = (decide (pk = 1) && atK L m (·.typ))) := by show _ = _; rw [HL.out, atK_map _ _ _ hmt, atK_map _ _ _ hmt, (show pk = t.kids[m].kind from HT_p.out.kind), Nd.kinds_eq]; rfl
              have HR : Hid ((classK t.kind t.num t.text (t.kids.map Nd.kinds)) = false) := by show _ = _; rw [HQ.out]; first | (simp [classK, headK, headK_neg, HML.out, hk35_0, hc1, hnlt_2, hml, hc4, hc5]; done) | (have hla := hc5; simp only [Bool.and_eq_false_iff, decide_eq_false_iff_not] at hla; rcases hla with h | h <;> simp [classK, headK, headK_neg, HML.out, hk35_0, hc1, hnlt_2, hml, hc4, hc5, h])
              have hD1 := Below.refl W1.heap.size W1
              have hE1 := HB1.out
              obtain ⟨x0, x1, x2, x3, x4⟩ := HBX.out
              dsimp only at x0 x1 x2 x3 x4
              obtain ⟨p0, p1, p2, p3, p4⟩ := HC_p.out W1 (hE1.block _ HG_p.out)
              have HC := refcon_text txt W1 hTx
              try dsimp only at HC
              rw [hc1] at HC
              try unfold NC.val at HC
              go_wp2_with fail
              refine HC.mono ?_; rintro e W2 ⟨rfl, hC⟩
              have hD2 := hD1.trans (hC.mono hD1.size)
              have hE2 := HB1.out.trans (hD2.mono (by rw [HS1.out]; omega))
              clear HC hC hD1 hE1 x0 x1 x2 x3 x4 p0 p1 p2 p3 p4
              obtain ⟨x0, x1, x2, x3, x4⟩ := HBX.out.same (hD2.block w.heap.size (by rw [HS1.out]; omega))
              dsimp only at x0 x1 x2 x3 x4
              obtain ⟨p0, p1, p2, p3, p4⟩ := HC_p.out W2 (hE2.block _ HG_p.out)
              have HC := preds_of (HVS.out.later hE2) (by rw [List.length_take]; have := HTL.out; omega) (fun t' h => rpred_any t' (ht.kid (List.mem_of_mem_take h)))
              try dsimp only at HC
              have hcv : _ = _ := ((all_take_map t.kids m (·.pred)).symm.trans (by rw [HL.out]) : ((t.kids.take m).all fun t => t.kinds.pred) = (L.take m).all (·.pred))
              rw [hcv, hc4] at HC
              try unfold NC.val at HC
              go_wp2_with fail
              refine HC.mono ?_; rintro e W3 ⟨rfl, hC⟩
              have hD3 := hD2.trans (hC.mono hD2.size)
              have hE3 := HB1.out.trans (hD3.mono (by rw [HS1.out]; omega))
              clear HC hC hD2 hE2 x0 x1 x2 x3 x4 hcv p0 p1 p2 p3 p4
              obtain ⟨x0, x1, x2, x3, x4⟩ := HBX.out.same (hD3.block w.heap.size (by rw [HS1.out]; omega))
              dsimp only at x0 x1 x2 x3 x4
              obtain ⟨p0, p1, p2, p3, p4⟩ := HC_p.out W3 (hE3.block _ HG_p.out)
              have HC := (ristype_any _ (ht.kid (List.getElem_mem _))) _ W3 (HT_p.out.later hE3)
              try dsimp only at HC
              have hcv : _ = _ := ((atK_map t.kids m (·.typ) (by rw [← HLN.out]; omega)).symm.trans (by rw [HL.out]) : (t.kids[m]'(by rw [← HLN.out]; omega)).kinds.typ = atK L m (·.typ))
              rw [hcv, hc5] at HC
              try unfold NC.val at HC
              go_wp2_with fail
              refine HC.mono ?_; rintro e W4 ⟨rfl, hC⟩
              have hD4 := hD3.trans (hC.mono hD3.size)
              have hE4 := HB1.out.trans (hD4.mono (by rw [HS1.out]; omega))
              clear HC hC hD3 hE3 x0 x1 x2 x3 x4 hcv p0 p1 p2 p3 p4
              obtain ⟨x0, x1, x2, x3, x4⟩ := HBX.out.same (hD4.block w.heap.size (by rw [HS1.out]; omega))
              dsimp only at x0 x1 x2 x3 x4
              obtain ⟨p0, p1, p2, p3, p4⟩ := HC_p.out W4 (hE4.block _ HG_p.out)
              go_wp2_with fail
              all_goals
                try rw [Exit.noGoto_ret]
                go_ret
                exact ⟨by rw [HR.out]; first | rfl | (refine congrArg (fun b => Ending.returned (Value.bool b)) (?_ : _ = _); simp <;> first | assumption | omega), hE4⟩
          | false =>
            have HR : Hid ((classK t.kind t.num t.text (t.kids.map Nd.kinds)) = false) := by show _ = _; rw [HQ.out]; first | (simp [classK, headK, headK_neg, HML.out, hk35_0, hc1, hnlt_2, hml, hc4]; done) | (have hla := hc4; simp only [Bool.and_eq_false_iff, decide_eq_false_iff_not] at hla; rcases hla with h | h <;> simp [classK, headK, headK_neg, HML.out, hk35_0, hc1, hnlt_2, hml, hc4, h])
            have hD1 := Below.refl W1.heap.size W1
            have hE1 := HB1.out
            obtain ⟨x0, x1, x2, x3, x4⟩ := HBX.out
            dsimp only at x0 x1 x2 x3 x4
            have HC := refcon_text txt W1 hTx
            try dsimp only at HC
            rw [hc1] at HC
            try unfold NC.val at HC
            go_wp2_with fail
            refine HC.mono ?_; rintro e W2 ⟨rfl, hC⟩
            have hD2 := hD1.trans (hC.mono hD1.size)
            have hE2 := HB1.out.trans (hD2.mono (by rw [HS1.out]; omega))
            clear HC hC hD1 hE1 x0 x1 x2 x3 x4
            obtain ⟨x0, x1, x2, x3, x4⟩ := HBX.out.same (hD2.block w.heap.size (by rw [HS1.out]; omega))
            dsimp only at x0 x1 x2 x3 x4
            have HC := preds_of (HVS.out.later hE2) (by rw [List.length_take]; have := HTL.out; omega) (fun t' h => rpred_any t' (ht.kid (List.mem_of_mem_take h)))
            try dsimp only at HC
            have hcv : _ = _ := ((all_take_map t.kids m (·.pred)).symm.trans (by rw [HL.out]) : ((t.kids.take m).all fun t => t.kinds.pred) = (L.take m).all (·.pred))
            rw [hcv, hc4] at HC
            try unfold NC.val at HC
            go_wp2_with fail
            refine HC.mono ?_; rintro e W3 ⟨rfl, hC⟩
            have hD3 := hD2.trans (hC.mono hD2.size)
            have hE3 := HB1.out.trans (hD3.mono (by rw [HS1.out]; omega))
            clear HC hC hD2 hE2 x0 x1 x2 x3 x4 hcv
            obtain ⟨x0, x1, x2, x3, x4⟩ := HBX.out.same (hD3.block w.heap.size (by rw [HS1.out]; omega))
            dsimp only at x0 x1 x2 x3 x4
            go_wp2_with fail
            all_goals
              try rw [Exit.noGoto_ret]
              go_ret
              exact ⟨by rw [HR.out]; first | rfl | (refine congrArg (fun b => Ending.returned (Value.bool b)) (?_ : _ = _); simp <;> first | assumption | omega), hE3⟩
        case neg =>
          have hnlt_2' : ¬ (m : Int) < (kl : Int) := by omega
          have HR : Hid ((classK t.kind t.num t.text (t.kids.map Nd.kinds)) = false) := by show _ = _; rw [HQ.out]; simp [classK, headK, headK_neg, HML.out, hk35_0, hc1, hnlt_2]
          have hD1 := Below.refl W1.heap.size W1
          have hE1 := HB1.out
          obtain ⟨x0, x1, x2, x3, x4⟩ := HBX.out
          dsimp only at x0 x1 x2 x3 x4
          have HC := refcon_text txt W1 hTx
          try dsimp only at HC
          rw [hc1] at HC
          try unfold NC.val at HC
          go_wp2_with fail
          refine HC.mono ?_; rintro e W2 ⟨rfl, hC⟩
          have hD2 := hD1.trans (hC.mono hD1.size)
          have hE2 := HB1.out.trans (hD2.mono (by rw [HS1.out]; omega))
          clear HC hC hD1 hE1 x0 x1 x2 x3 x4
          obtain ⟨x0, x1, x2, x3, x4⟩ := HBX.out.same (hD2.block w.heap.size (by rw [HS1.out]; omega))
          dsimp only at x0 x1 x2 x3 x4
          go_wp2_with fail
          all_goals
            try rw [Exit.noGoto_ret]
            go_ret
            exact ⟨by rw [HR.out]; first | rfl | (refine congrArg (fun b => Ending.returned (Value.bool b)) (?_ : _ = _); simp <;> first | assumption | omega), hE2⟩
    | false =>
      have HR : Hid ((classK t.kind t.num t.text (t.kids.map Nd.kinds)) = false) := by show _ = _; rw [HQ.out]; first | (simp [classK, headK, headK_neg, HML.out, hk35_0, hc1]; done) | (have hla := hc1; simp only [Bool.and_eq_false_iff, decide_eq_false_iff_not] at hla; rcases hla with h | h <;> simp [classK, headK, headK_neg, HML.out, hk35_0, hc1, h])
      have hD1 := Below.refl W1.heap.size W1
      have hE1 := HB1.out
      obtain ⟨x0, x1, x2, x3, x4⟩ := HBX.out
      dsimp only at x0 x1 x2 x3 x4
      have HC := refcon_text txt W1 hTx
      try dsimp only at HC
      rw [hc1] at HC
      try unfold NC.val at HC
      go_wp2_with fail
      refine HC.mono ?_; rintro e W2 ⟨rfl, hC⟩
      have hD2 := hD1.trans (hC.mono hD1.size)
      have hE2 := HB1.out.trans (hD2.mono (by rw [HS1.out]; omega))
      clear HC hC hD1 hE1 x0 x1 x2 x3 x4
      obtain ⟨x0, x1, x2, x3, x4⟩ := HBX.out.same (hD2.block w.heap.size (by rw [HS1.out]; omega))
      dsimp only at x0 x1 x2 x3 x4
      go_wp2_with fail
      all_goals
        try rw [Exit.noGoto_ret]
        go_ret
        exact ⟨by rw [HR.out]; first | rfl | (refine congrArg (fun b => Ending.returned (Value.bool b)) (?_ : _ = _); simp <;> first | assumption | omega), hE2⟩
end Go.Proofs.Ytobmpipifdielaa
