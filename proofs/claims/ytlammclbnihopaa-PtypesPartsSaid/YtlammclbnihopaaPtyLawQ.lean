/- The law PtypesQuals, walked. -/
import Derived.Test.YtlammclbnihopaaPtyAwake
import Derived.Test.YtlammclbnihopaaPtyLawT
import Derived.Test.YtlammclbnihopaaPtyRefK
namespace Go.Proofs.Ytlammclbnihopaa.N7
open Go.RowKit N5 N6
attribute [local go_sem] fld0 fld1

set_option maxRecDepth 100000 in
set_option maxHeartbeats 8000000 in
theorem walk_PtypesQuals (s : ByteArray) (w : World) (_h63 : s.size ≤ maxLen) : Calls Try.prog 4 #[.string s] w (SaysIs true w) := by
  by_cases hs : s.size ≤ 3000
  case neg =>
    have hs' : (3000 : Int) < (s.size : Int) := by omega
    have HA := awake_any w
    clear hs
    go_enter Try.func4, Try.ntmps4
    go_wp2_with fail
    refine HA.mono ?_; rintro e W2 ⟨rfl, hB⟩
    go_wp2_with fail
    go_ret
    exact ⟨rfl, hB⟩
  case pos =>
  have hs' : ¬ (3000 : Int) < (s.size : Int) := by omega
  have HT := qualt_any s hs w
  have HR := fun w => reftext_any s hs w
  have hz : (qualL s).1.size ≤ 1000000 := readL_size (rr := qualR (atR 200)) rel_qual size_qual s hs
  obtain ⟨⟨t, p, x⟩, ho⟩ : ∃ o, o = qualL s := ⟨_, rfl⟩
  rw [← ho] at HT HR hz
  dsimp only at hz
  have HZ := Lib.hid hz
  clear ho hs hz
  go_enter Try.func4, Try.ntmps4
  go_wp2_with fail
  refine HT.mono ?_; rintro e W1 ⟨⟨dk, dp, dn, dt, dq, dl, dc⟩, rfl, hd, hB1⟩
  unfold NC.val
  dsimp only at hd ⊢
  go_upto_region 4 with fail
  obtain ⟨V1, hV⟩ : ∃ V, V = W1.alloc (.cells #[.int .i64 dk, .int .i64 dp, .int .i64 dn, .string ⟨dt.toArray⟩, .slice dq dl dc] 25) := ⟨_, rfl⟩
  rw [← hV]
  have hBV : Below W1.heap.size W1 V1 := by rw [hV]; exact (Below.refl _ _).alloc (Nat.le_refl _) _
  have K1 : Blk V1 W1.heap.size #[.int .i64 dk, .int .i64 dp, .int .i64 dn, .string ⟨dt.toArray⟩, .slice dq dl dc] 25 := by rw [hV]; exact Blk.new W1 _ _
  have hBt := hB1.trans (hBV.mono hB1.size)
  have hd1 := hd.later hBV
  have HR1 := HR V1
  clear hV hBV hB1 HT HR hd
  go_wp2_with fail
  refine HR1.mono ?_; rintro e W2 ⟨⟨ek, ep, en, et, eq, el, ec⟩, rfl, he, hB2⟩
  unfold NC.val
  dsimp only at he ⊢
  have K1 := K1.later hB2
  have hd2 := hd1.later hB2
  have hBt := hBt.trans (hB2.mono hBt.size)
  clear HR1 hd1 hB2
  go_upto_region 5 with fail
  obtain ⟨V2, hV⟩ : ∃ V, V = W2.alloc (.cells #[.int .i64 ek, .int .i64 ep, .int .i64 en, .string ⟨et.toArray⟩, .slice eq el ec] 25) := ⟨_, rfl⟩
  rw [← hV]
  have hBV : Below W2.heap.size W2 V2 := by rw [hV]; exact (Below.refl _ _).alloc (Nat.le_refl _) _
  have K2 : Blk V2 W2.heap.size #[.int .i64 ek, .int .i64 ep, .int .i64 en, .string ⟨et.toArray⟩, .slice eq el ec] 25 := by rw [hV]; exact Blk.new W2 _ _
  have K1 := K1.later hBV
  have hBt := hBt.trans (hBV.mono hBt.size)
  have HJ := just_any t _ _ t _ _ V2 (hd2.later hBV) (he.later hBV) HZ.out
  rw [Nd.just_self] at HJ
  unfold NC.val at HJ
  dsimp only at HJ
  have HA := fun W => awake_any W
  obtain ⟨⟨x0, x1, x2, x3, x4⟩, -⟩ := cells5 K1
  obtain ⟨⟨y0, y1, y2, y3, y4⟩, -⟩ := cells5 K2
  clear hV hBV hd2 he K1 K2
  go_wp2_with fail
  refine HJ.mono ?_; rintro e W3 ⟨rfl, hB⟩
  have hBt := hBt.trans (hB.mono hBt.size)
  clear HJ hB x0 x1 x2 x3 x4 y0 y1 y2 y3 y4
  go_wp2_with fail
  refine (HA W3).mono ?_; rintro e W4 ⟨rfl, hB⟩
  go_wp2_with fail
  go_ret
  exact ⟨rfl, hBt.trans (hB.mono hBt.size)⟩
end Go.Proofs.Ytlammclbnihopaa.N7
