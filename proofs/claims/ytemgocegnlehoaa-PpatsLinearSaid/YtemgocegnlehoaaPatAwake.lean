/- awake of layer 8. -/
import Derived.Test.YtemgocegnlehoaaPatWhole
import Derived.Test.YtemgocegnlehoaaPatLinear
import Derived.Test.YtemgocegnlehoaaPatTexts
namespace Go.Proofs.Ytemgocegnlehoaa.N8
open Go.RowKit N5 N6 N7
attribute [local go_sem] fld0 fld1

def ex1 : ByteArray := ⟨#[75, 32, 120, 32, 40, 76, 32, 95, 41]⟩
def ex2 : ByteArray := ⟨#[75, 32, 120, 32, 120]⟩
def ex3 : ByteArray := ⟨#[120, 32, 121]⟩
def tr1 : Nd := .mk 14 0 0 [75] [.mk 11 2 0 [120] [], .mk 14 5 0 [76] [.mk 12 7 0 [] []]]
def tr2 : Nd := .mk 14 0 0 [75] [.mk 11 2 0 [120] [], .mk 11 4 0 [120] []]
theorem read1 : patL ex1 = (tr1, 0, 0) := by kernel_rfl
theorem read2 : patL ex2 = (tr2, 0, 0) := by kernel_rfl
theorem read3 : patL ex3 = (zNd, 2, 5) := by kernel_rfl
theorem lin2 : linF [] tr2.varsN = (4, false) := by kernel_rfl
theorem vars2 : tr2.varsN = [.mk 11 2 0 [120] [], .mk 11 4 0 [120] []] := by kernel_rfl

set_option maxRecDepth 100000 in
set_option maxHeartbeats 4000000 in
theorem awake_any (w : World) : Calls Try.prog 5 #[] w (SaysIs true w) := by
  have H1 := fun w => patt_any ex1 (by decide) w
  have H2 := fun w => patt_any ex2 (by decide) w
  have H3 := fun w => patt_any ex3 (by decide) w
  rw [read1] at H1
  rw [read2] at H2
  rw [read3] at H3
  unfold ex1 at H1; unfold ex2 at H2; unfold ex3 at H3
  have HL := fun (c : NC) (W : World) (h : NodeAt (fun _ => True) W c tr2) => linear_any h (by decide) (by rw [vars2]; intro x hx; simp at hx; rcases hx with rfl | rfl <;> (unfold maxLen; decide))
  have HV := fun (c : NC) (W : World) (h : NodeAt (fun _ => True) W c tr2) => vars_any h (by decide)
  rw [lin2] at HL
  rw [vars2] at HV
  go_enter Try.func5, Try.ntmps5
  go_wp2_with fail
  refine (H1 _).mono ?_; rintro e W1 ⟨⟨dk, dp, dn, dt, dq, dl, dc⟩, rfl, hd, hB1⟩
  obtain rfl : dk = 14 := hd.kind
  obtain rfl : dl = 2 := hd.len
  have hd := hd.mono (S' := fun _ => True) fun _ _ _ => trivial
  unfold NC.val
  dsimp only
  go_upto_region 2 with fail
  obtain ⟨V1, hV⟩ : ∃ V, V = W1.alloc (.cells #[.int .i64 14, .int .i64 dp, .int .i64 dn, .string ⟨dt.toArray⟩, .slice dq 2 dc] 25) := ⟨_, rfl⟩
  rw [← hV]
  have hBV : Below W1.heap.size W1 V1 := by rw [hV]; exact (Below.refl _ _).alloc (Nat.le_refl _) _
  have K1 : Blk V1 W1.heap.size #[.int .i64 14, .int .i64 dp, .int .i64 dn, .string ⟨dt.toArray⟩, .slice dq 2 dc] 25 := by rw [hV]; exact Blk.new W1 _ _
  have T1 := hd.later hBV
  have hBt := hB1.trans (hBV.mono hB1.size)
  clear hV hd hB1 hBV
  go_wp2_with fail
  refine (H2 _).mono ?_; rintro e W2 ⟨⟨qk, qp, qn, qt, qq, ql, qc⟩, rfl, hd, hB⟩
  have hd := hd.mono (S' := fun _ => True) fun _ _ _ => trivial
  have K1 := K1.later hB
  have T1 := T1.later hB
  have hBt := hBt.trans (hB.mono hBt.size)
  unfold NC.val
  dsimp only
  go_upto_region 3 with fail
  obtain ⟨V2, hV⟩ : ∃ V, V = W2.alloc (.cells #[.int .i64 qk, .int .i64 qp, .int .i64 qn, .string ⟨qt.toArray⟩, .slice qq ql qc] 25) := ⟨_, rfl⟩
  rw [← hV]
  have hBV : Below W2.heap.size W2 V2 := by rw [hV]; exact (Below.refl _ _).alloc (Nat.le_refl _) _
  have K2 : Blk V2 W2.heap.size #[.int .i64 qk, .int .i64 qp, .int .i64 qn, .string ⟨qt.toArray⟩, .slice qq ql qc] 25 := by rw [hV]; exact Blk.new W2 _ _
  have K1 := K1.later hBV
  have T1 := T1.later hBV
  have T2 := hd.later hBV
  have hBt := hBt.trans (hBV.mono hBt.size)
  clear hV hd hB hBV
  go_wp2_with fail
  refine (H3 _).mono ?_; rintro e W3 ⟨⟨rk, rp, rn, rt, rq, rl, rc⟩, rfl, -, hB⟩
  have K1 := K1.later hB
  have T1 := T1.later hB
  have K2 := K2.later hB
  have T2 := T2.later hB
  have hBt := hBt.trans (hB.mono hBt.size)
  unfold NC.val
  dsimp only
  go_upto_region 4 with fail
  obtain ⟨V3, hV⟩ : ∃ V, V = W3.alloc (.cells #[.int .i64 rk, .int .i64 rp, .int .i64 rn, .string ⟨rt.toArray⟩, .slice rq rl rc] 25) := ⟨_, rfl⟩
  rw [← hV]
  have hBV : Below W3.heap.size W3 V3 := by rw [hV]; exact (Below.refl _ _).alloc (Nat.le_refl _) _
  have K3 : Blk V3 W3.heap.size #[.int .i64 rk, .int .i64 rp, .int .i64 rn, .string ⟨rt.toArray⟩, .slice rq rl rc] 25 := by rw [hV]; exact Blk.new W3 _ _
  have K1 := K1.later hBV
  have T1 := T1.later hBV
  have K2 := K2.later hBV
  have T2 := T2.later hBV
  have hBt := hBt.trans (hBV.mono hBt.size)
  clear hV hB hBV H1 H2 H3 K3
  have HL1 := HL _ _ T2
  unfold NC.val at HL1
  dsimp only at HL1
  obtain ⟨⟨y0, y1, y2, y3, y4⟩, -⟩ := cells5 K2
  go_wp2_with fail
  refine HL1.mono ?_; rintro e W4 ⟨rfl, hB⟩
  clear HL1 HL y0 y1 y2 y3 y4
  have K1 := K1.later hB
  have T1 := T1.later hB
  have K2 := K2.later hB
  have T2 := T2.later hB
  have hBt := hBt.trans (hB.mono hBt.size)
  obtain ⟨⟨kk, kp, kn, kt, kq, kl, kc⟩, g, o, hp, -, -, -, hle, hk, hc⟩ := T1.kid 1 (by decide)
  obtain rfl : kt = [76] := hk.text
  have hp : dq = some ⟨g, o, none⟩ := hp
  have hle : 2 ≤ dc := hle
  subst hp
  obtain ⟨a0, a1, a2, a3, a4⟩ := hc W4 rfl
  obtain ⟨⟨x0, x1, x2, x3, x4⟩, -⟩ := cells5 K1
  obtain ⟨⟨y0, y1, y2, y3, y4⟩, -⟩ := cells5 K2
  simp only [Nat.one_mul, Nat.add_assoc, Nat.reduceAdd] at a0 a1 a2 a3 a4
  have HV1 := HV _ _ T2
  unfold NC.val at HV1
  dsimp only at HV1
  clear hc hk K1 K2 T1 T2 HV hB
  go_wp2_with fail
  refine HV1.mono ?_; rintro e W5 ⟨vv, rfl, hown, hB⟩
  have hr : RowAt W5.heap.size W5 encS vv [[120], [120]] := RowAt.of_owns encS_len (by decide) hown
  have hBt := hBt.trans (hB.mono hBt.size)
  have hBa := (Below.refl W5.heap.size W5).alloc (Nat.le_refl _) (.cells #[.string ⟨#[120]⟩, .string ⟨#[120]⟩] 9)
  have hr2 := (hr.below hBa).mono hBa.size
  have hu : RowAt (W5.alloc (.cells #[.string ⟨#[120]⟩, .string ⟨#[120]⟩] 9)).heap.size (W5.alloc (.cells #[.string ⟨#[120]⟩, .string ⟨#[120]⟩] 9)) encS (.slice (some ⟨W5.heap.size, 0, none⟩) 2 2) [[120], [120]] :=
    (RowAt.fresh (xs := [[120], [120]]) #[.string ⟨#[120]⟩, .string ⟨#[120]⟩] 9 2 (by simp) rfl).top
  have HT := texts_any hr2 hu (by decide) (by decide)
  rw [show decide (([[120], [120]] : List Tx) = [[120], [120]]) = true from by simp] at HT
  clear HV1 hown hr hr2 hu
  go_wp2_with fail
  refine HT.mono ?_; rintro e W6 ⟨rfl, hB6⟩
  clear HT
  go_wp2_with fail
  go_ret
  exact ⟨rfl, hBt.trans ((hBa.trans (hB6.mono hBa.size)).mono hBt.size)⟩
end Go.Proofs.Ytemgocegnlehoaa.N8
