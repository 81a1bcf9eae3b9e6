/- The law PpatsPats, walked. -/
import Derived.Test.YtemgocegnlehoaaPatAwake
import Derived.Test.YtemgocegnlehoaaPatRefC
import Derived.Test.YtemgocegnlehoaaPatKinds
namespace Go.Proofs.Ytemgocegnlehoaa.N8
open Go.RowKit N5 N6 N7
attribute [local go_sem] fld0 fld1

theorem readL_size {rd : Cu → Out Nd} {rr : Cu → Cu × Nd} (hrel : ∀ c, c.nest = 0 → Rel c (rd c) (rr c)) (hsz : ∀ c d t, rd c = (d, some t) → t.size ≤ d.at' + 1) (s : ByteArray) (hs : s.size ≤ 3000) : (readL rd s).1.size ≤ 1000000 := by
  have hz : zNd.size ≤ 1000000 := by decide
  rw [← readR_eq hrel]
  unfold readR
  cases hl : N4.lexAll s with
  | error kx => exact hz
  | ok r =>
    have hlen := lexAll_len hl
    obtain ⟨c0, hc0⟩ : ∃ c0, c0 = newCu (r ++ [N4.endTk s]) := ⟨_, rfl⟩
    have ho : CuOk c0 := by rw [hc0]; exact ok_new _ (by simp; omega)
    have hn : c0.nest = 0 := by rw [hc0]; rfl
    dsimp only
    rw [← hc0]
    unfold wholeO
    by_cases h : (rr c0).1.doneE = 0
    · rw [if_pos h]
      by_cases h2 : (rr c0).2.depth ≤ 100
      · rw [if_pos h2]
        have hr := hrel c0 hn
        have k1 := hr.yes (done_err h)
        have k2 := hsz c0 (rd c0).1 (rr c0).2 (out_eq k1)
        rw [hr.cur] at k2
        have k3 := hr.fine.ok ho
        have k4 := k3.le
        have k5 := k3.few
        show (rr c0).2.size ≤ 1000000
        omega
      · rw [if_neg h2]; exact hz
    · rw [if_neg h]; exact hz
set_option maxRecDepth 100000 in
set_option maxHeartbeats 8000000 in
theorem walk_PpatsPats (s : ByteArray) (w : World) (_h63 : s.size ≤ maxLen) : Calls Try.prog 3 #[.string s] w (SaysIs true w) := by
  by_cases hs : s.size ≤ 3000
  case neg =>
    have hs' : (3000 : Int) < (s.size : Int) := by omega
    have HA := awake_any w
    clear hs
    go_enter Try.func3, Try.ntmps3
    go_wp2_with fail
    refine HA.mono ?_; rintro e W2 ⟨rfl, hB⟩
    go_wp2_with fail
    go_ret
    exact ⟨rfl, hB⟩
  case pos =>
  have hs' : ¬ (3000 : Int) < (s.size : Int) := by omega
  have HT := patt_any s hs w
  have HR := fun w => refpat_any s hs w
  have hz : (patL s).1.size ≤ 1000000 := readL_size (rr := atR 200) (fun c h => pair_whole 200 c (by omega)) (fun c d t h => by have := whole_sized 200 c d t h; omega) s hs
  have F1 : (patL s).2.2 = 0 → (patL s).1.isPat = true ∧ Nd.Fit (patL s).1 := fun h => pat_legal hs h
  obtain ⟨⟨t, p, x⟩, ho⟩ : ∃ o, o = patL s := ⟨_, rfl⟩
  rw [← ho] at HT HR hz F1
  dsimp only at hz F1
  have HF := Lib.hid F1
  have HZ := Lib.hid hz
  clear ho hs hz F1
  go_enter Try.func3, Try.ntmps3
  go_wp2_with fail
  refine HT.mono ?_; rintro e W1 ⟨⟨dk, dp, dn, dt, dq, dl, dc⟩, rfl, hd, hB1⟩
  unfold NC.val
  dsimp only at hd ⊢
  go_upto_region 4 with fail
  obtain ⟨V1, hV⟩ : ∃ V, V = W1.alloc (.cells #[.int .i64 dk, .int .i64 dp, .int .i64 dn, .string ⟨dt.toArray⟩, .slice dq dl dc] 25) := ⟨_, rfl⟩
  rw [← hV]
  have hBV : Below W1.heap.size W1 V1 := by rw [hV]; exact (Below.refl _ _).alloc (Nat.le_refl _) _
  have K1 : Blk V1 W1.heap.size #[.int .i64 dk, .int .i64 dp, .int .i64 dn, .string ⟨dt.toArray⟩, .slice dq dl dc] 25 := by rw [hV]; exact Blk.new W1 _ _
  have hBt := hB1.trans (hBV.mono hB1.size)
  have hd1 := hd.later hBV
  have HR1 := HR V1
  clear hV hBV hB1 HT HR hd
  go_wp2_with fail
  refine HR1.mono ?_; rintro e W2 ⟨⟨ek, ep, en, et, eq, el, ec⟩, rfl, he, hB2⟩
  unfold NC.val
  dsimp only at he ⊢
  have K1 := K1.later hB2
  have hd2 := hd1.later hB2
  have hBt := hBt.trans (hB2.mono hBt.size)
  clear HR1 hd1 hB2
  go_upto_region 5 with fail
  obtain ⟨V2, hV⟩ : ∃ V, V = W2.alloc (.cells #[.int .i64 ek, .int .i64 ep, .int .i64 en, .string ⟨et.toArray⟩, .slice eq el ec] 25) := ⟨_, rfl⟩
  rw [← hV]
  have hBV : Below W2.heap.size W2 V2 := by rw [hV]; exact (Below.refl _ _).alloc (Nat.le_refl _) _
  have K2 : Blk V2 W2.heap.size #[.int .i64 ek, .int .i64 ep, .int .i64 en, .string ⟨et.toArray⟩, .slice eq el ec] 25 := by rw [hV]; exact Blk.new W2 _ _
  have K1 := K1.later hBV
  have hBt := hBt.trans (hBV.mono hBt.size)
  have K2b := K2
  have HJ := just_any t _ _ t _ _ V2 (hd2.later hBV) (he.later hBV) HZ.out
  rw [Nd.just_self] at HJ
  unfold NC.val at HJ
  dsimp only at HJ
  have HA := fun W => awake_any W
  have Td := (hd2.later hBV).mono (S' := fun _ => True) fun _ _ _ => trivial
  obtain ⟨⟨x0, x1, x2, x3, x4⟩, -⟩ := cells5 K1
  obtain ⟨⟨y0, y1, y2, y3, y4⟩, -⟩ := cells5 K2
  clear hV hBV hd2 he K2 K2b
  by_cases hx : x = 0
  · subst hx
    go_wp2_with fail
    refine HJ.mono ?_; rintro e W3 ⟨rfl, hB⟩
    have hBt := hBt.trans (hB.mono hBt.size)
    have K1 := K1.later hB
    have Td := Td.later hB
    have HP := pat_any t (HF.out trivial).2 _ W3 Td
    rw [(HF.out trivial).1] at HP
    unfold NC.val at HP
    dsimp only at HP
    clear HJ hB x0 x1 x2 x3 x4 y0 y1 y2 y3 y4
    obtain ⟨⟨x0, x1, x2, x3, x4⟩, -⟩ := cells5 K1
    go_wp2_with fail
    refine HP.mono ?_; rintro e W4 ⟨rfl, hB⟩
    have hBt := hBt.trans (hB.mono hBt.size)
    clear HP hB x0 x1 x2 x3 x4 K1 Td
    go_wp2_with fail
    refine (HA W4).mono ?_; rintro e W5 ⟨rfl, hB⟩
    go_wp2_with fail
    go_ret
    exact ⟨rfl, hBt.trans (hB.mono hBt.size)⟩
  · have hxb : (x != 0) = true := by rw [bne_iff_ne]; exact hx
    go_wp2_with fail
    refine HJ.mono ?_; rintro e W3 ⟨rfl, hB⟩
    have hBt := hBt.trans (hB.mono hBt.size)
    clear HJ hB x0 x1 x2 x3 x4 y0 y1 y2 y3 y4 K1 Td
    go_wp2_with fail
    refine (HA W3).mono ?_; rintro e W4 ⟨rfl, hB⟩
    go_wp2_with fail
    go_ret
    exact ⟨rfl, hBt.trans (hB.mono hBt.size)⟩
end Go.Proofs.Ytemgocegnlehoaa.N8
