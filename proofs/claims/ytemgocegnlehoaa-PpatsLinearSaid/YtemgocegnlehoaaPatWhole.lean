/- Patterns: patterns, texts. -/
import Derived.Test.YtemgocegnlehoaaPatRow
import Derived.Test.YtemgocegnlehoaaPatSize
namespace Go.Proofs.Ytemgocegnlehoaa.N8
open Go.RowKit N5 N6 N7
attribute [local go_sem] fld0 fld1

set_option maxRecDepth 100000 in
set_option maxHeartbeats 4000000 in
theorem whole_step {rd : Cu → Out Nd} {w : World} {B : Nat} {v : Value} {c : Cu} (h : CurAt w B v c) (hrd : c.enters = true → ∀ W, CurAt W B v c.enter → Calls Try.prog 52 #[rdr B] W (ReadTo B v (rd c.enter) W)) : Calls Try.prog 29 #[rdr B] w (ReadTo B v (deeper rd c) w) := by
  have HRD := Lib.hid hrd
  clear hrd
  unfold rdr
  obtain ⟨W1, hW1⟩ : ∃ W1, W1 = ((w.alloc (.cells #[.pointer (some ⟨B, 0, none⟩)] 69)).alloc (.cells #[.int .i64 0, .int .i64 0, .int .i64 0, .string ⟨#[]⟩, .slice none 0 0] 25)) := ⟨_, rfl⟩
  have hsz : W1.heap.size = w.heap.size + 1 + 1 := by rw [hW1]; simp
  have Kp : Blk W1 (w.heap.size) #[.pointer (some ⟨B, 0, none⟩)] 69 := by rw [hW1]; have h0 := Blk.new w #[.pointer (some ⟨B, 0, none⟩)] 69; (try simp only [World.size_alloc] at h0); exact (h0.later ((Below.refl _ _).alloc (Nat.le_refl _) _))
  have Kr : Blk W1 (w.heap.size + 1) #[.int .i64 0, .int .i64 0, .int .i64 0, .string ⟨#[]⟩, .slice none 0 0] 25 := by rw [hW1]; have h0 := Blk.new (w.alloc (.cells #[.pointer (some ⟨B, 0, none⟩)] 69)) #[.int .i64 0, .int .i64 0, .int .i64 0, .string ⟨#[]⟩, .slice none 0 0] 25; (try simp only [World.size_alloc] at h0); exact h0
  have hA1 : At7 B v c w W1 := by rw [hW1]; exact (At7.of h).alloc _ |>.alloc _
  have hlt := h.lt
  have HW1 := Lib.hid hW1
  clear hW1 h
  go_enter Try.func29, Try.ntmps29
  go_upto_region 1 with fail
  rw [← HW1.out]
  clear HW1
  have p0 := cells1 Kp
  obtain ⟨⟨r0, r1, r2, r3, r4⟩, rf0, rf1, rf2, rf3, rf4⟩ := cells5 Kr
  have HC := deeper_any (x := rdr B) (rd := rd) (enters_of Try.func52 (by kernel_rfl) rfl) hA1.cur (fun he W hA => HRD.out he W hA.cur)
  go_wp2_with fail
  refine HC.mono ?_; rintro e W2 ⟨d, rfl, hAc, hm⟩
  clear HC
  clear p0 r0 r1 r2 r3 r4 rf0 rf1 rf2 rf3 rf4
  have hA2 := hA1.trans hAc
  have Kp := Kp.kept hAc.grown (fun e => by injection e; omega)
  have Kr := Kr.kept hAc.grown (fun e => by injection e; omega)
  have hs3 := hAc.grown.size
  clear hA1 hAc
  obtain ⟨dk, dp, dn, dt, dq, dl, dc⟩ := d
  obtain ⟨W7, hW7, hb7, hA7, hn7⟩ := read_end hA2 (b := w.heap.size + 1) (by omega) (z := zN) Kr ⟨dk, dp, dn, dt, dq, dl, dc⟩
  dsimp only [zN] at hW7 hb7
  have hm7 := tree_pass (m := w.heap.size) hm hn7 (by omega) (by omega)
  clear hn7
  unfold NC.val
  have p0 := cells1 Kp
  obtain ⟨⟨r0, r1, r2, r3, r4⟩, rf0, rf1, rf2, rf3, rf4⟩ := cells5 Kr
  go_wp2_with fail
  rw [← hW7]
  obtain ⟨z0, z1, z2, z3, z4⟩ := hb7
  dsimp only at z0 z1 z2 z3 z4
  exact bodyPost_ret (v := .tuple #[NC.val ⟨dk, dp, dn, dt, dq, dl, dc⟩, .bool (deeper rd c).2.isSome]) (by simp [results, Try.results29, go_sem, z0, z1, z2, z3, z4, NC.val, zN]) rfl ⟨_, rfl, hA7, hm7⟩
theorem whole_any {B : Nat} {v : Value} : ∀ (n : Nat) (c : Cu) (W : World), 200 ≤ c.nest + n → CurAt W B v c → Calls Try.prog 29 #[rdr B] W (ReadTo B v (wholeP n c) W)
  | 0, c, W, hk, h => by
    have hne : ¬ c.enters = true := fun q => by have := (enters_iff.1 q).2; omega
    have := whole_step (rd := fun c => (c, none)) h (fun he => absurd he hne)
    unfold deeper at this
    rw [if_neg hne] at this
    exact this
  | n + 1, c, W, hk, h => whole_step (rd := rowP (wholeP n)) h fun he W hc => row_any hc (pair_whole n) (fun c W hk h => whole_any n c W hk h) (by rw [enter_of he]; show 200 ≤ c.nest + 1 + (n + 1); omega)
set_option maxRecDepth 100000 in
set_option maxHeartbeats 4000000 in
theorem at_any  {w : World} {B : Nat} {v : Value} {c : Cu} (h : CurAt w B v c)  : Calls Try.prog 16 #[.pointer (some ⟨B, 0, none⟩)] w (ReadTo B v (wholeP 200 c) w) := by
  obtain ⟨W1, hW1⟩ : ∃ W1, W1 = (w.alloc (.cells #[.int .i64 0, .int .i64 0, .int .i64 0, .string ⟨#[]⟩, .slice none 0 0] 25)) := ⟨_, rfl⟩
  have hsz : W1.heap.size = w.heap.size + 1 := by rw [hW1]; simp
  have Kr : Blk W1 (w.heap.size) #[.int .i64 0, .int .i64 0, .int .i64 0, .string ⟨#[]⟩, .slice none 0 0] 25 := by rw [hW1]; have h0 := Blk.new w #[.int .i64 0, .int .i64 0, .int .i64 0, .string ⟨#[]⟩, .slice none 0 0] 25; (try simp only [World.size_alloc] at h0); exact h0
  have hA1 : At7 B v c w W1 := by rw [hW1]; exact (At7.of h).alloc _
  have hlt := h.lt
  have HW1 := Lib.hid hW1
  clear hW1 h
  go_enter Try.func16, Try.ntmps16
  go_upto_region 1 with fail
  rw [← HW1.out]
  clear HW1
  obtain ⟨⟨r0, r1, r2, r3, r4⟩, rf0, rf1, rf2, rf3, rf4⟩ := cells5 Kr
  have HC := whole_any 200 c W1 (by omega) hA1.cur
  go_wp2_with fail
  refine HC.mono ?_; rintro e W2 ⟨d, rfl, hAc, hm⟩
  clear HC
  clear r0 r1 r2 r3 r4 rf0 rf1 rf2 rf3 rf4
  have hA2 := hA1.trans hAc
  have Kr := Kr.kept hAc.grown (fun e => by injection e; omega)
  have hs3 := hAc.grown.size
  clear hA1 hAc
  obtain ⟨dk, dp, dn, dt, dq, dl, dc⟩ := d
  obtain ⟨W7, hW7, hb7, hA7, hn7⟩ := read_end hA2 (b := w.heap.size) (by omega) (z := zN) Kr ⟨dk, dp, dn, dt, dq, dl, dc⟩
  dsimp only [zN] at hW7 hb7
  have hm7 := tree_pass (m := w.heap.size) hm hn7 (by omega) (by omega)
  clear hn7
  unfold NC.val
  obtain ⟨⟨r0, r1, r2, r3, r4⟩, rf0, rf1, rf2, rf3, rf4⟩ := cells5 Kr
  go_wp2_with fail
  rw [← hW7]
  obtain ⟨z0, z1, z2, z3, z4⟩ := hb7
  dsimp only at z0 z1 z2 z3 z4
  exact bodyPost_ret (v := .tuple #[NC.val ⟨dk, dp, dn, dt, dq, dl, dc⟩, .bool (wholeP 200 c).2.isSome]) (by simp [results, Try.results16, go_sem, z0, z1, z2, z3, z4, NC.val, zN]) rfl ⟨_, rfl, hA7, hm7⟩
def patL (s : ByteArray) : Nd × Int × Int := readL (wholeP 200) s
set_option maxRecDepth 100000 in
set_option maxHeartbeats 4000000 in
theorem patt_any (s : ByteArray) (hs : s.size ≤ 3000) (w : World) : Calls Try.prog 6 #[.string s] w (TreeTo (patL s) w) := by
  obtain ⟨W1, hW1⟩ : ∃ W1, W1 = w.alloc (.cells #[.int .i64 0, .int .i64 0, .int .i64 0, .string ⟨#[]⟩, .slice none 0 0] 25) := ⟨_, rfl⟩
  have hK : Blk W1 w.heap.size #[.int .i64 0, .int .i64 0, .int .i64 0, .string ⟨#[]⟩, .slice none 0 0] 25 := by rw [hW1]; exact Blk.new w _ _
  have hB1 : Below w.heap.size w W1 := by rw [hW1]; exact (Below.refl _ w).alloc (Nat.le_refl _) _
  have hs1 : w.heap.size + 1 ≤ W1.heap.size := by rw [hW1]; simp
  have HC := whole_text (f := 16) (enters_of Try.func16 (by kernel_rfl) rfl) (rd := wholeP 200) (fun c h0 h => whole_ok h0 h) (fun c d t e => by have := whole_sized 200 c d t e; omega) (fun B v c W h => at_any h) s hs W1
  have HW1 := Lib.hid hW1
  clear hW1
  go_enter Try.func6, Try.ntmps6
  go_upto_region 1 with fail
  rw [← HW1.out]
  clear HW1
  go_wp2_with fail
  refine HC.mono ?_; rintro e W2 ⟨⟨dk, dp, dn, dt, dq, dl, dc⟩, rfl, hd, hB⟩
  have hK2 := hK.later hB
  obtain ⟨W7, hW7, hb7, hB7, hd7⟩ := pass_text (hd.mono fun k hk _ => by omega) (hB1.trans (hB.mono (by omega))) hK2
  obtain ⟨⟨x0, x1, x2, x3, x4⟩, f0, f1, f2, f3, f4⟩ := cells5 hK2
  dsimp only at hW7 hb7
  unfold NC.val
  clear HC
  go_wp2_with fail
  rw [← hW7]
  obtain ⟨z0, z1, z2, z3, z4⟩ := hb7
  dsimp only at z0 z1 z2 z3 z4
  exact bodyPost_ret (v := .tuple #[NC.val ⟨dk, dp, dn, dt, dq, dl, dc⟩, .int .i64 (patL s).2.1, .int .i64 (patL s).2.2]) (by simp [results, Try.results6, go_sem, z0, z1, z2, z3, z4, NC.val, patL]) rfl ⟨_, rfl, hd7, hB7⟩
end Go.Proofs.Ytemgocegnlehoaa.N8
