/- awake of layer 7. -/
import Derived.Test.YtlammclbnihopaaPtyText
namespace Go.Proofs.Ytlammclbnihopaa.N7
open Go.RowKit N5 N6
attribute [local go_sem] fld0 fld1

def ex1 : ByteArray := ⟨#[97, 32, 45, 62, 32, 84, 32, 98]⟩
def ex2 : ByteArray := ⟨#[40, 67, 32, 97, 44, 32, 68, 32, 98, 41, 32, 61, 62, 32, 97]⟩
def ex3 : ByteArray := ⟨#[97, 32, 45, 62]⟩
def ex4 : ByteArray := ⟨#[97, 32, 41]⟩
def tr1 : Nd := .mk 2 0 0 [45, 62] [.mk 1 0 0 [97] [], .mk 2 5 0 [84] [.mk 1 7 0 [98] []]]
def tr2 : Nd := .mk 4 0 0 [] [.mk 3 1 0 [67] [.mk 1 3 0 [97] []], .mk 3 6 0 [68] [.mk 1 8 0 [98] []], .mk 1 14 0 [97] []]
theorem read1 : typeL ex1 = (tr1, 0, 0) := by kernel_rfl
theorem read2 : qualL ex2 = (tr2, 0, 0) := by kernel_rfl
theorem read3 : typeL ex3 = (zNd, 4, 5) := by kernel_rfl
theorem read4 : typeL ex4 = (zNd, 2, 5) := by kernel_rfl

set_option maxRecDepth 100000 in
set_option maxHeartbeats 4000000 in
theorem awake_any (w : World) : Calls Try.prog 8 #[] w (SaysIs true w) := by
  have H1 := fun w => typet_any ex1 (by decide) w
  have H2 := fun w => qualt_any ex2 (by decide) w
  have H3 := fun w => typet_any ex3 (by decide) w
  have H4 := fun w => typet_any ex4 (by decide) w
  rw [read1] at H1
  rw [read2] at H2
  rw [read3] at H3
  rw [read4] at H4
  unfold ex1 at H1; unfold ex2 at H2; unfold ex3 at H3; unfold ex4 at H4
  go_enter Try.func8, Try.ntmps8
  go_wp2_with fail
  refine (H1 _).mono ?_; rintro e W1 ⟨⟨dk, dp, dn, dt, dq, dl, dc⟩, rfl, hd, hB1⟩
  obtain rfl : dp = 0 := hd.pos
  obtain rfl : dt = [45, 62] := hd.text
  obtain rfl : dl = 2 := hd.len
  have hd := hd.mono (S' := fun _ => True) fun _ _ _ => trivial
  unfold NC.val
  dsimp only
  go_upto_region 2 with fail
  obtain ⟨V1, hV⟩ : ∃ V, V = W1.alloc (.cells #[.int .i64 dk, .int .i64 0, .int .i64 dn, .string ⟨#[45, 62]⟩, .slice dq 2 dc] 25) := ⟨_, rfl⟩
  rw [← hV]
  have hBV : Below W1.heap.size W1 V1 := by rw [hV]; exact (Below.refl _ _).alloc (Nat.le_refl _) _
  have K1 : Blk V1 W1.heap.size #[.int .i64 dk, .int .i64 0, .int .i64 dn, .string ⟨#[45, 62]⟩, .slice dq 2 dc] 25 := by rw [hV]; exact Blk.new W1 _ _
  have T1 := hd.later hBV
  have hBt := hB1.trans (hBV.mono hB1.size)
  clear hV hd hB1 hBV
  go_wp2_with fail
  refine (H2 _).mono ?_; rintro e W2 ⟨⟨qk, qp, qn, qt, qq, ql, qc⟩, rfl, hd, hB⟩
  obtain rfl : ql = 3 := hd.len
  have hd := hd.mono (S' := fun _ => True) fun _ _ _ => trivial
  have K1 := K1.later hB
  have T1 := T1.later hB
  have hBt := hBt.trans (hB.mono hBt.size)
  unfold NC.val
  dsimp only
  go_upto_region 3 with fail
  obtain ⟨V2, hV⟩ : ∃ V, V = W2.alloc (.cells #[.int .i64 qk, .int .i64 qp, .int .i64 qn, .string ⟨qt.toArray⟩, .slice qq 3 qc] 25) := ⟨_, rfl⟩
  rw [← hV]
  have hBV : Below W2.heap.size W2 V2 := by rw [hV]; exact (Below.refl _ _).alloc (Nat.le_refl _) _
  have K2 : Blk V2 W2.heap.size #[.int .i64 qk, .int .i64 qp, .int .i64 qn, .string ⟨qt.toArray⟩, .slice qq 3 qc] 25 := by rw [hV]; exact Blk.new W2 _ _
  have K1 := K1.later hBV
  have T1 := T1.later hBV
  have T2 := hd.later hBV
  have hBt := hBt.trans (hBV.mono hBt.size)
  clear hV hd hB hBV
  go_wp2_with fail
  refine (H3 _).mono ?_; rintro e W3 ⟨⟨rk, rp, rn, rt, rq, rl, rc⟩, rfl, -, hB⟩
  have K1 := K1.later hB
  have T1 := T1.later hB
  have K2 := K2.later hB
  have T2 := T2.later hB
  have hBt := hBt.trans (hB.mono hBt.size)
  unfold NC.val
  dsimp only
  go_upto_region 4 with fail
  obtain ⟨V3, hV⟩ : ∃ V, V = W3.alloc (.cells #[.int .i64 rk, .int .i64 rp, .int .i64 rn, .string ⟨rt.toArray⟩, .slice rq rl rc] 25) := ⟨_, rfl⟩
  rw [← hV]
  have hBV : Below W3.heap.size W3 V3 := by rw [hV]; exact (Below.refl _ _).alloc (Nat.le_refl _) _
  have K1 := K1.later hBV
  have T1 := T1.later hBV
  have K2 := K2.later hBV
  have T2 := T2.later hBV
  have hBt := hBt.trans (hBV.mono hBt.size)
  clear hV hB hBV
  go_wp2_with fail
  refine (H4 _).mono ?_; rintro e W4 ⟨⟨sk, sp, sn, st, sq, sl, sc⟩, rfl, -, hB⟩
  have K1 := K1.later hB
  have T1 := T1.later hB
  have K2 := K2.later hB
  have T2 := T2.later hB
  have hBt := hBt.trans (hB.mono hBt.size)
  unfold NC.val
  dsimp only
  go_upto_region 5 with fail
  obtain ⟨V4, hV⟩ : ∃ V, V = W4.alloc (.cells #[.int .i64 sk, .int .i64 sp, .int .i64 sn, .string ⟨st.toArray⟩, .slice sq sl sc] 25) := ⟨_, rfl⟩
  rw [← hV]
  have hBV : Below W4.heap.size W4 V4 := by rw [hV]; exact (Below.refl _ _).alloc (Nat.le_refl _) _
  have K1 := K1.later hBV
  have T1 := T1.later hBV
  have K2 := K2.later hBV
  have T2 := T2.later hBV
  have hBt := hBt.trans (hBV.mono hBt.size)
  clear hV hB hBV H1 H2 H3 H4
  obtain ⟨⟨kk, kp, kn, kt, kq, kl, kc⟩, g, o, hp, -, -, -, hle, hk, hc⟩ := T1.kid 1 (by decide)
  obtain ⟨⟨jk, jp, jn, jt, jq, jl, jc⟩, g2, o2, hp2, -, -, -, hle2, hk2, hc2⟩ := T2.kid 1 (by decide)
  obtain rfl : kp = 5 := hk.pos
  obtain rfl : kl = 1 := hk.len
  obtain rfl : jt = [68] := hk2.text
  have hp : dq = some ⟨g, o, none⟩ := hp
  have hp2 : qq = some ⟨g2, o2, none⟩ := hp2
  have hle : 2 ≤ dc := hle
  have hle2 : 3 ≤ qc := hle2
  subst hp hp2
  obtain ⟨a0, a1, a2, a3, a4⟩ := hc V4 rfl
  obtain ⟨b0, b1, b2, b3, b4⟩ := hc2 V4 rfl
  obtain ⟨⟨x0, x1, x2, x3, x4⟩, -⟩ := cells5 K1
  obtain ⟨⟨y0, y1, y2, y3, y4⟩, -⟩ := cells5 K2
  simp only [Nat.one_mul, Nat.add_assoc, Nat.reduceAdd] at a0 a1 a2 a3 a4 b0 b1 b2 b3 b4
  clear hc hc2 hk hk2 K1 K2 T1 T2
  go_wp2_with fail
  go_ret
  exact ⟨rfl, hBt⟩
end Go.Proofs.Ytlammclbnihopaa.N7
