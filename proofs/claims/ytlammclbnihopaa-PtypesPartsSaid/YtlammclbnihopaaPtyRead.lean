/- Readers: the exported readers. -/
import Derived.Test.YtlammclbnihopaaPtyC
import Derived.Test.YtlammclbnihopaaPtySize
import Derived.Test.YtlammclbnihopaaLexB
import Derived.Test.YtlammclbnihopaaNodeA
namespace Go.Proofs.Ytlammclbnihopaa.N7
open Go.RowKit N5 N6

attribute [local go_sem] fld0 fld1
set_option maxRecDepth 100000 in
set_option maxHeartbeats 4000000 in
theorem at_any  {w : World} {B : Nat} {v : Value} {c : Cu} (h : CurAt w B v c) : Calls Try.prog 20 #[.pointer (some ⟨B, 0, none⟩)] w (ReadTo B v (wholeP 200 c) w) := by
  obtain ⟨W1, hW1⟩ : ∃ W1, W1 = (w.alloc (.cells #[.int .i64 0, .int .i64 0, .int .i64 0, .string ⟨#[]⟩, .slice none 0 0] 25)) := ⟨_, rfl⟩
  have hsz : W1.heap.size = w.heap.size + 1 := by rw [hW1]; simp
  have Kr : Blk W1 (w.heap.size) #[.int .i64 0, .int .i64 0, .int .i64 0, .string ⟨#[]⟩, .slice none 0 0] 25 := by rw [hW1]; have h0 := Blk.new w #[.int .i64 0, .int .i64 0, .int .i64 0, .string ⟨#[]⟩, .slice none 0 0] 25; (try simp only [World.size_alloc] at h0); exact h0
  have hA1 : At7 B v c w W1 := by rw [hW1]; exact (At7.of h).alloc _
  have hlt := h.lt
  have HW1 := Lib.hid hW1
  clear hW1 h
  go_enter Try.func20, Try.ntmps20
  go_upto_region 1 with fail
  rw [← HW1.out]
  clear HW1
  obtain ⟨⟨r0, r1, r2, r3, r4⟩, rf0, rf1, rf2, rf3, rf4⟩ := cells5 Kr
  have HC := whole_any 200 c W1 (by omega) hA1.cur
  go_wp2_with fail
  refine HC.mono ?_; rintro e W2 ⟨d, rfl, hAc, hm⟩
  clear HC
  clear r0 r1 r2 r3 r4 rf0 rf1 rf2 rf3 rf4
  have hA2 := hA1.trans hAc
  have Kr := Kr.kept hAc.grown (fun e => by injection e; omega)
  have hs3 := hAc.grown.size
  clear hA1 hAc
  obtain ⟨dk, dp, dn, dt, dq, dl, dc⟩ := d
  obtain ⟨W7, hW7, hb7, hA7, hn7⟩ := read_end hA2 (b := w.heap.size) (by omega) (z := zN) Kr ⟨dk, dp, dn, dt, dq, dl, dc⟩
  dsimp only [zN] at hW7 hb7
  have hm7 := tree_pass (m := w.heap.size) hm hn7 (by omega) (by omega)
  clear hn7
  unfold NC.val
  obtain ⟨⟨r0, r1, r2, r3, r4⟩, rf0, rf1, rf2, rf3, rf4⟩ := cells5 Kr
  go_wp2_with fail
  rw [← hW7]
  obtain ⟨z0, z1, z2, z3, z4⟩ := hb7
  dsimp only at z0 z1 z2 z3 z4
  exact bodyPost_ret (v := .tuple #[NC.val ⟨dk, dp, dn, dt, dq, dl, dc⟩, .bool (wholeP 200 c).2.isSome]) (by simp [results, Try.results20, go_sem, z0, z1, z2, z3, z4, NC.val, zN]) rfl ⟨_, rfl, hA7, hm7⟩
set_option maxRecDepth 100000 in
set_option maxHeartbeats 4000000 in
theorem atomat_any  {w : World} {B : Nat} {v : Value} {c : Cu} (h : CurAt w B v c) : Calls Try.prog 16 #[.pointer (some ⟨B, 0, none⟩)] w (ReadTo B v (atomP (wholeP 200) c) w) := by
  obtain ⟨W1, hW1⟩ : ∃ W1, W1 = (w.alloc (.cells #[.int .i64 0, .int .i64 0, .int .i64 0, .string ⟨#[]⟩, .slice none 0 0] 25)) := ⟨_, rfl⟩
  have hsz : W1.heap.size = w.heap.size + 1 := by rw [hW1]; simp
  have Kr : Blk W1 (w.heap.size) #[.int .i64 0, .int .i64 0, .int .i64 0, .string ⟨#[]⟩, .slice none 0 0] 25 := by rw [hW1]; have h0 := Blk.new w #[.int .i64 0, .int .i64 0, .int .i64 0, .string ⟨#[]⟩, .slice none 0 0] 25; (try simp only [World.size_alloc] at h0); exact h0
  have hA1 : At7 B v c w W1 := by rw [hW1]; exact (At7.of h).alloc _
  have hlt := h.lt
  have HW1 := Lib.hid hW1
  clear hW1 h
  go_enter Try.func16, Try.ntmps16
  go_upto_region 1 with fail
  rw [← HW1.out]
  clear HW1
  obtain ⟨⟨r0, r1, r2, r3, r4⟩, rf0, rf1, rf2, rf3, rf4⟩ := cells5 Kr
  have HC := atom_any (k := 200) hA1.cur (fun c W hk h => whole_any 200 c W hk h) (by omega)
  go_wp2_with fail
  refine HC.mono ?_; rintro e W2 ⟨d, rfl, hAc, hm⟩
  clear HC
  clear r0 r1 r2 r3 r4 rf0 rf1 rf2 rf3 rf4
  have hA2 := hA1.trans hAc
  have Kr := Kr.kept hAc.grown (fun e => by injection e; omega)
  have hs3 := hAc.grown.size
  clear hA1 hAc
  obtain ⟨dk, dp, dn, dt, dq, dl, dc⟩ := d
  obtain ⟨W7, hW7, hb7, hA7, hn7⟩ := read_end hA2 (b := w.heap.size) (by omega) (z := zN) Kr ⟨dk, dp, dn, dt, dq, dl, dc⟩
  dsimp only [zN] at hW7 hb7
  have hm7 := tree_pass (m := w.heap.size) hm hn7 (by omega) (by omega)
  clear hn7
  unfold NC.val
  obtain ⟨⟨r0, r1, r2, r3, r4⟩, rf0, rf1, rf2, rf3, rf4⟩ := cells5 Kr
  go_wp2_with fail
  rw [← hW7]
  obtain ⟨z0, z1, z2, z3, z4⟩ := hb7
  dsimp only at z0 z1 z2 z3 z4
  exact bodyPost_ret (v := .tuple #[NC.val ⟨dk, dp, dn, dt, dq, dl, dc⟩, .bool (atomP (wholeP 200) c).2.isSome]) (by simp [results, Try.results16, go_sem, z0, z1, z2, z3, z4, NC.val, zN]) rfl ⟨_, rfl, hA7, hm7⟩
set_option maxRecDepth 100000 in
set_option maxHeartbeats 4000000 in
theorem qualat_any  {w : World} {B : Nat} {v : Value} {c : Cu} (h : CurAt w B v c) : Calls Try.prog 22 #[.pointer (some ⟨B, 0, none⟩)] w (ReadTo B v (qualP (wholeP 200) c) w) := by
  obtain ⟨W1, hW1⟩ : ∃ W1, W1 = (w.alloc (.cells #[.int .i64 0, .int .i64 0, .int .i64 0, .string ⟨#[]⟩, .slice none 0 0] 25)) := ⟨_, rfl⟩
  have hsz : W1.heap.size = w.heap.size + 1 := by rw [hW1]; simp
  have Kr : Blk W1 (w.heap.size) #[.int .i64 0, .int .i64 0, .int .i64 0, .string ⟨#[]⟩, .slice none 0 0] 25 := by rw [hW1]; have h0 := Blk.new w #[.int .i64 0, .int .i64 0, .int .i64 0, .string ⟨#[]⟩, .slice none 0 0] 25; (try simp only [World.size_alloc] at h0); exact h0
  have hA1 : At7 B v c w W1 := by rw [hW1]; exact (At7.of h).alloc _
  have hlt := h.lt
  have HW1 := Lib.hid hW1
  clear hW1 h
  go_enter Try.func22, Try.ntmps22
  go_upto_region 1 with fail
  rw [← HW1.out]
  clear HW1
  obtain ⟨⟨r0, r1, r2, r3, r4⟩, rf0, rf1, rf2, rf3, rf4⟩ := cells5 Kr
  have HC := qual_any (k := 200) hA1.cur (pair_whole 200) (fun c W hk h => whole_any 200 c W hk h) (by omega)
  go_wp2_with fail
  refine HC.mono ?_; rintro e W2 ⟨d, rfl, hAc, hm⟩
  clear HC
  clear r0 r1 r2 r3 r4 rf0 rf1 rf2 rf3 rf4
  have hA2 := hA1.trans hAc
  have Kr := Kr.kept hAc.grown (fun e => by injection e; omega)
  have hs3 := hAc.grown.size
  clear hA1 hAc
  obtain ⟨dk, dp, dn, dt, dq, dl, dc⟩ := d
  obtain ⟨W7, hW7, hb7, hA7, hn7⟩ := read_end hA2 (b := w.heap.size) (by omega) (z := zN) Kr ⟨dk, dp, dn, dt, dq, dl, dc⟩
  dsimp only [zN] at hW7 hb7
  have hm7 := tree_pass (m := w.heap.size) hm hn7 (by omega) (by omega)
  clear hn7
  unfold NC.val
  obtain ⟨⟨r0, r1, r2, r3, r4⟩, rf0, rf1, rf2, rf3, rf4⟩ := cells5 Kr
  go_wp2_with fail
  rw [← hW7]
  obtain ⟨z0, z1, z2, z3, z4⟩ := hb7
  dsimp only at z0 z1 z2 z3 z4
  exact bodyPost_ret (v := .tuple #[NC.val ⟨dk, dp, dn, dt, dq, dl, dc⟩, .bool (qualP (wholeP 200) c).2.isSome]) (by simp [results, Try.results22, go_sem, z0, z1, z2, z3, z4, NC.val, zN]) rfl ⟨_, rfl, hA7, hm7⟩
set_option maxRecDepth 100000 in
set_option maxHeartbeats 4000000 in
theorem predsat_any  {w : World} {B : Nat} {v : Value} {c : Cu} (h : CurAt w B v c) : Calls Try.prog 18 #[.pointer (some ⟨B, 0, none⟩)] w (RowsTo B v (contextP (wholeP 200) c) w) := by
  have hA1 := At7.of h
  have hlt := h.lt
  clear h
  go_enter Try.func18, Try.ntmps18
  have HC := context_any (k := 200) hA1.cur (pair_whole 200) (fun c W hk h => whole_any 200 c W hk h) (by omega)
  go_wp2_with fail
  refine HC.mono ?_; rintro e W2 ⟨val, rfl, hAc, hm⟩
  clear HC
  have hA2 := hA1.trans hAc
  have hs3 := hAc.grown.size
  clear hA1 hAc
  go_wp2_with fail
  go_ret2
  exact ⟨_, rfl, hA2, hm⟩
end Go.Proofs.Ytlammclbnihopaa.N7
