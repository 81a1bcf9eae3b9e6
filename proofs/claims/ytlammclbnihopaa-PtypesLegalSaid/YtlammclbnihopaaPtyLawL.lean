/- The law PtypesLegal, walked. -/
import Derived.Test.YtlammclbnihopaaPtyAwake
import Derived.Test.YtlammclbnihopaaPtyKinds
namespace Go.Proofs.Ytlammclbnihopaa.N7
open Go.RowKit N5 N6
attribute [local go_sem] fld0 fld1

set_option maxRecDepth 100000 in
set_option maxHeartbeats 8000000 in
theorem walk_PtypesLegal (s : ByteArray) (w : World) (h63 : s.size ≤ maxLen) : Calls Try.prog 6 #[.string s] w (SaysIs true w) := by
  by_cases hs : s.size ≤ 3000
  case neg =>
    have hs' : (3000 : Int) < (s.size : Int) := by omega
    have HA := awake_any w
    clear hs
    go_enter Try.func6, Try.ntmps6
    go_wp2_with fail
    refine HA.mono ?_; rintro e W2 ⟨rfl, hB⟩
    go_wp2_with fail
    go_ret
    exact ⟨rfl, hB⟩
  case pos =>
  have hs' : ¬ (3000 : Int) < (s.size : Int) := by omega
  have HT := typet_any s hs w
  have HQ := fun w' => qualt_any s hs w'
  have F1 : (typeL s).2.2 = 0 → (typeL s).1.isTyp = true ∧ Nd.Fit (typeL s).1 := fun h => type_legal hs h
  have F2 : (qualL s).2.2 = 0 → Nd.Fit (qualL s).1 ∧ (qualL s).1.size ≤ 5000 ∧ ((qualL s).1.depth < 100 → (sigN (qualL s).1).isDcl = true) := fun h => qual_legal hs h
  obtain ⟨⟨t, p, x⟩, ho⟩ : ∃ o, o = typeL s := ⟨_, rfl⟩
  obtain ⟨⟨u, q, y⟩, ho2⟩ : ∃ o, o = qualL s := ⟨_, rfl⟩
  rw [← ho] at HT F1
  rw [← ho2] at HQ F2
  dsimp only at F1 F2
  have H1 := Lib.hid F1
  have H2 := Lib.hid F2
  clear F1 F2 ho ho2 hs
  go_enter Try.func6, Try.ntmps6
  go_wp2_with fail
  refine HT.mono ?_; rintro e W1 ⟨⟨dk, dp, dn, dt, dq, dl, dc⟩, rfl, hd, hB1⟩
  unfold NC.val
  dsimp only
  go_upto_region 4 with fail
  obtain ⟨V1, hV⟩ : ∃ V, V = W1.alloc (.cells #[.int .i64 dk, .int .i64 dp, .int .i64 dn, .string ⟨dt.toArray⟩, .slice dq dl dc] 25) := ⟨_, rfl⟩
  rw [← hV]
  have hBV : Below W1.heap.size W1 V1 := by rw [hV]; exact (Below.refl _ _).alloc (Nat.le_refl _) _
  have K1 : Blk V1 W1.heap.size #[.int .i64 dk, .int .i64 dp, .int .i64 dn, .string ⟨dt.toArray⟩, .slice dq dl dc] 25 := by rw [hV]; exact Blk.new W1 _ _
  have T1 : TreeAt V1 ⟨dk, dp, dn, dt, dq, dl, dc⟩ t := (hd.later hBV).mono fun _ _ _ => trivial
  have hBt := hB1.trans (hBV.mono hB1.size)
  have HQ := HQ V1
  clear hV hBV hB1 hd HT
  go_wp2_with fail
  refine HQ.mono ?_; rintro e W2 ⟨⟨ek, ep, en, et, eq, el, ec⟩, rfl, hd, hB⟩
  have K1 := K1.later hB
  have T1 := T1.later hB
  have hBt := hBt.trans (hB.mono hBt.size)
  unfold NC.val
  dsimp only
  go_upto_region 5 with fail
  obtain ⟨V2, hV⟩ : ∃ V, V = W2.alloc (.cells #[.int .i64 ek, .int .i64 ep, .int .i64 en, .string ⟨et.toArray⟩, .slice eq el ec] 25) := ⟨_, rfl⟩
  rw [← hV]
  have hBV : Below W2.heap.size W2 V2 := by rw [hV]; exact (Below.refl _ _).alloc (Nat.le_refl _) _
  have K2 : Blk V2 W2.heap.size #[.int .i64 ek, .int .i64 ep, .int .i64 en, .string ⟨et.toArray⟩, .slice eq el ec] 25 := by rw [hV]; exact Blk.new W2 _ _
  have T2 : TreeAt V2 ⟨ek, ep, en, et, eq, el, ec⟩ u := (hd.later hBV).mono fun _ _ _ => trivial
  have K1 := K1.later hBV
  have T1 := T1.later hBV
  have hBt := hBt.trans (hBV.mono hBt.size)
  clear hV hBV hB hd HQ
  by_cases hy : y = 0
  case neg =>
    by_cases hx : x = 0
    case neg =>
      have HA := awake_any V2
      go_wp2_with fail
      refine HA.mono ?_; rintro e W9 ⟨rfl, hB⟩
      go_wp2_with fail
      go_ret
      exact ⟨rfl, hBt.trans (hB.mono hBt.size)⟩
    case pos =>
      obtain ⟨h1, h2⟩ := H1.out hx
      subst hx
      have HC := type_any t h2 _ V2 T1
      rw [h1] at HC
      unfold NC.val at HC
      dsimp only at HC
      obtain ⟨⟨x0, x1, x2, x3, x4⟩, -⟩ := cells5 K1
      clear h1 h2
      go_wp2_with fail
      refine HC.mono ?_; rintro e W8 ⟨rfl, hB⟩
      have hBt := hBt.trans (hB.mono hBt.size)
      have HA := awake_any W8
      clear HC hB
      go_wp2_with fail
      refine HA.mono ?_; rintro e W9 ⟨rfl, hB⟩
      go_wp2_with fail
      go_ret
      exact ⟨rfl, hBt.trans (hB.mono hBt.size)⟩
  case pos =>
    obtain ⟨h1, h2, h3⟩ := H2.out hy
    subst hy
    have HD := refdepth_any u _ _ V2 T2 h1.size
    unfold NC.val at HD
    dsimp only at HD
    obtain ⟨⟨y0, y1, y2, y3, y4⟩, -⟩ := cells5 K2
    have HF := Lib.hid h1
    have HS := Lib.hid h2
    have HX := Lib.hid h3
    clear h1 h2 h3
    by_cases hdp : u.depth < 100
    case neg =>
      have hdp' : ¬ (u.depth : Int) < 100 := by omega
      clear hdp
      go_wp2_with fail
      refine HD.mono ?_; rintro e W3 ⟨rfl, hB⟩
      have K1 := K1.later hB
      have T1 := T1.later hB
      have hBt := hBt.trans (hB.mono hBt.size)
      clear HD hB y0 y1 y2 y3 y4
      by_cases hx : x = 0
      case neg =>
        have HA := awake_any W3
        go_wp2_with fail
        refine HA.mono ?_; rintro e W9 ⟨rfl, hB⟩
        go_wp2_with fail
        go_ret
        exact ⟨rfl, hBt.trans (hB.mono hBt.size)⟩
      case pos =>
        obtain ⟨h1, h2⟩ := H1.out hx
        subst hx
        have HC := type_any t h2 _ W3 T1
        rw [h1] at HC
        unfold NC.val at HC
        dsimp only at HC
        obtain ⟨⟨x0, x1, x2, x3, x4⟩, -⟩ := cells5 K1
        clear h1 h2
        go_wp2_with fail
        refine HC.mono ?_; rintro e W8 ⟨rfl, hB⟩
        have hBt := hBt.trans (hB.mono hBt.size)
        have HA := awake_any W8
        clear HC hB
        go_wp2_with fail
        refine HA.mono ?_; rintro e W9 ⟨rfl, hB⟩
        go_wp2_with fail
        go_ret
        exact ⟨rfl, hBt.trans (hB.mono hBt.size)⟩
    case pos =>
      have hdp' : (u.depth : Int) < 100 := by omega
      have HDC := HX.out hdp
      clear hdp
      go_wp2_with fail
      refine HD.mono ?_; rintro e W3 ⟨rfl, hB⟩
      have K1 := K1.later hB
      have T1 := T1.later hB
      have K2 := K2.later hB
      have T2 := T2.later hB
      have hBt := hBt.trans (hB.mono hBt.size)
      clear HD hB y0 y1 y2 y3 y4
      obtain ⟨⟨y0, y1, y2, y3, y4⟩, -⟩ := cells5 K2
      have hBA : Below W3.heap.size W3 (W3.alloc (.cells #[.int .i64 ek, .int .i64 ep, .int .i64 en, .string ⟨et.toArray⟩, .slice eq el ec] 25)) := (Below.refl _ _).alloc (Nat.le_refl _) _
      have T3 : TreeAt (W3.alloc (.cells #[.int .i64 ek, .int .i64 ep, .int .i64 en, .string ⟨et.toArray⟩, .slice eq el ec] 25)) ⟨32, 0, 0, [120], some ⟨W3.heap.size, 0, none⟩, 1, 1⟩ (sigN u) := by
        have T2' : NodeAt (fun b => 0 ≤ b ∧ b ≠ W3.heap.size) W3 ⟨ek, ep, en, et, eq, el, ec⟩ u := T2.mono fun k _ hl => ⟨Nat.zero_le _, by omega⟩
        exact ((OwnRows.one (n := 0) (d := ⟨ek, ep, en, et, eq, el, ec⟩) (Blk.new W3 _ _) (Nat.zero_le _) (T2'.later hBA)).node 32 0 0 [120]).mono fun _ _ _ => trivial
      have HC := decl_any (sigN u) (sig_fit HF.out (by have := HS.out; omega)) _ _ T3
      rw [HDC] at HC
      unfold NC.val at HC
      dsimp only at HC
      have HBA := Lib.hid hBA
      have HT1 := Lib.hid (T1.later hBA)
      have HK1 := Lib.hid (K1.later hBA)
      have hBt := hBt.trans (hBA.mono hBt.size)
      clear T3 HDC K1 T1 hBA
      go_wp2_with fail
      refine HC.mono ?_; rintro e W5 ⟨rfl, hB⟩
      have K1 := HK1.out.later hB
      have T1 := HT1.out.later hB
      have hBt := hBt.trans (hB.mono hBt.size)
      clear HC hB HT1 HK1
      by_cases hx : x = 0
      case neg =>
        have HA := awake_any W5
        go_wp2_with fail
        refine HA.mono ?_; rintro e W9 ⟨rfl, hB⟩
        go_wp2_with fail
        go_ret
        exact ⟨rfl, hBt.trans (hB.mono hBt.size)⟩
      case pos =>
        obtain ⟨h1, h2⟩ := H1.out hx
        subst hx
        have HC := type_any t h2 _ W5 T1
        rw [h1] at HC
        unfold NC.val at HC
        dsimp only at HC
        obtain ⟨⟨x0, x1, x2, x3, x4⟩, -⟩ := cells5 K1
        clear h1 h2
        go_wp2_with fail
        refine HC.mono ?_; rintro e W8 ⟨rfl, hB⟩
        have hBt := hBt.trans (hB.mono hBt.size)
        have HA := awake_any W8
        clear HC hB
        go_wp2_with fail
        refine HA.mono ?_; rintro e W9 ⟨rfl, hB⟩
        go_wp2_with fail
        go_ret
        exact ⟨rfl, hBt.trans (hB.mono hBt.size)⟩
end Go.Proofs.Ytlammclbnihopaa.N7
