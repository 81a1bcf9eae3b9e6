/- Readers: atoms, rows, types. Readers: rows and types. Readers: types. Readers: whole types, predicates. -/
import Derived.Test.YtlammclbnihopaaPtyA
namespace Go.Proofs.Ytlammclbnihopaa.N7
open Go.RowKit N5 N6

attribute [local go_sem] fld0 fld1
set_option maxRecDepth 100000 in
set_option maxHeartbeats 4000000 in
theorem brack_any {f : Nat} {x : Value} (eg : ∀ args w, (callFunc f args).run Try.prog w = .ok (.enter f args) w) {wh : Cu → Out Nd} {w : World} {B : Nat} {v : Value} {c : Cu} (h : CurAt w B v c) (hwh : c.enters = true → c.enter.is [40] = true → ∀ W, CurAt W B v (c.enter.want [40]) → Calls Try.prog f #[x] W (ReadTo B v (wh (c.enter.want [40])) W)) : Calls Try.prog 69 #[.pointer (some ⟨B, 0, none⟩), .func (.func f) #[x] #[]] w (ReadTo B v (deeper (inside wh) c) w) := by
  have HWH := Lib.hid hwh
  clear hwh
  obtain ⟨W1, hW1⟩ : ∃ W1, W1 = (((w.alloc (.cells #[.pointer (some ⟨B, 0, none⟩)] 34)).alloc (.cells #[.func (.func f) #[x] #[]] 70)).alloc (.cells #[.int .i64 0, .int .i64 0, .int .i64 0, .string ⟨#[]⟩, .slice none 0 0] 25)) := ⟨_, rfl⟩
  have hsz : W1.heap.size = w.heap.size + 1 + 1 + 1 := by rw [hW1]; simp
  have Kp : Blk W1 (w.heap.size) #[.pointer (some ⟨B, 0, none⟩)] 34 := by rw [hW1]; have h0 := Blk.new w #[.pointer (some ⟨B, 0, none⟩)] 34; (try simp only [World.size_alloc] at h0); exact ((h0.later ((Below.refl _ _).alloc (Nat.le_refl _) _)).later ((Below.refl _ _).alloc (Nat.le_refl _) _))
  have Kq : Blk W1 (w.heap.size + 1) #[.func (.func f) #[x] #[]] 70 := by rw [hW1]; have h0 := Blk.new (w.alloc (.cells #[.pointer (some ⟨B, 0, none⟩)] 34)) #[.func (.func f) #[x] #[]] 70; (try simp only [World.size_alloc] at h0); exact (h0.later ((Below.refl _ _).alloc (Nat.le_refl _) _))
  have Kr : Blk W1 (w.heap.size + 1 + 1) #[.int .i64 0, .int .i64 0, .int .i64 0, .string ⟨#[]⟩, .slice none 0 0] 25 := by rw [hW1]; have h0 := Blk.new ((w.alloc (.cells #[.pointer (some ⟨B, 0, none⟩)] 34)).alloc (.cells #[.func (.func f) #[x] #[]] 70)) #[.int .i64 0, .int .i64 0, .int .i64 0, .string ⟨#[]⟩, .slice none 0 0] 25; (try simp only [World.size_alloc] at h0); exact h0
  have hA1 : At7 B v c w W1 := by rw [hW1]; exact (At7.of h).alloc _ |>.alloc _ |>.alloc _
  have hlt := h.lt
  have HW1 := Lib.hid hW1
  clear hW1 h
  go_enter Try.func69, Try.ntmps69
  go_upto_region 1 with fail
  rw [← HW1.out]
  clear HW1
  have p0 := cells1 Kp
  have q0 := cells1 Kq
  obtain ⟨⟨r0, r1, r2, r3, r4⟩, rf0, rf1, rf2, rf3, rf4⟩ := cells5 Kr
  have HC := deeper_clo (rd := inside wh) (enters_of Try.func96 (by kernel_rfl) rfl) hA1.cur (fun he W hA => inside_any eg hA.cur (Kp.past hA (by omega)) (Kq.past hA (by omega)) (by omega) (by omega) (fun hi W2 hA2 => HWH.out he hi W2 hA2.cur))
  go_wp2_with fail
  refine HC.mono ?_; rintro e W2 ⟨d, rfl, hAc, hm⟩
  clear HC
  clear p0 q0 r0 r1 r2 r3 r4 rf0 rf1 rf2 rf3 rf4
  have hA2 := hA1.trans hAc
  have Kp := Kp.kept hAc.grown (fun e => by injection e; omega)
  have Kq := Kq.kept hAc.grown (fun e => by injection e; omega)
  have Kr := Kr.kept hAc.grown (fun e => by injection e; omega)
  have hs3 := hAc.grown.size
  clear hA1 hAc
  obtain ⟨dk, dp, dn, dt, dq, dl, dc⟩ := d
  obtain ⟨W7, hW7, hb7, hA7, hn7⟩ := read_end hA2 (b := w.heap.size + 1 + 1) (by omega) (z := zN) Kr ⟨dk, dp, dn, dt, dq, dl, dc⟩
  dsimp only [zN] at hW7 hb7
  have hm7 := tree_pass (m := w.heap.size) hm hn7 (by omega) (by omega)
  clear hn7
  unfold NC.val
  have p0 := cells1 Kp
  have q0 := cells1 Kq
  obtain ⟨⟨r0, r1, r2, r3, r4⟩, rf0, rf1, rf2, rf3, rf4⟩ := cells5 Kr
  go_wp2_with fail
  rw [← hW7]
  obtain ⟨z0, z1, z2, z3, z4⟩ := hb7
  dsimp only at z0 z1 z2 z3 z4
  exact bodyPost_ret (v := .tuple #[NC.val ⟨dk, dp, dn, dt, dq, dl, dc⟩, .bool (deeper (inside wh) c).2.isSome]) (by simp [results, Try.results69, go_sem, z0, z1, z2, z3, z4, NC.val, zN]) rfl ⟨_, rfl, hA7, hm7⟩
set_option maxRecDepth 100000 in
set_option maxHeartbeats 4000000 in
theorem atom_any {wh : Cu → Out Nd} {k : Nat} {w : World} {B : Nat} {v : Value} {c : Cu} (h : CurAt w B v c) (hwh : ∀ (c : Cu) (W : World), 200 ≤ c.nest + k → CurAt W B v c → Calls Try.prog 50 #[rdr B] W (ReadTo B v (wh c) W)) (hk : 200 ≤ c.nest + (k + 1)) : Calls Try.prog 39 #[rdr B] w (ReadTo B v (atomP wh c) w) := by
  have HWH := Lib.hid hwh
  have HK := Lib.hid hk
  clear hwh hk
  unfold rdr
  obtain ⟨W1, hW1⟩ : ∃ W1, W1 = ((w.alloc (.cells #[.pointer (some ⟨B, 0, none⟩)] 69)).alloc (.cells #[.int .i64 0, .int .i64 0, .int .i64 0, .string ⟨#[]⟩, .slice none 0 0] 25)) := ⟨_, rfl⟩
  have hsz : W1.heap.size = w.heap.size + 1 + 1 := by rw [hW1]; simp
  have Kp : Blk W1 (w.heap.size) #[.pointer (some ⟨B, 0, none⟩)] 69 := by rw [hW1]; have h0 := Blk.new w #[.pointer (some ⟨B, 0, none⟩)] 69; (try simp only [World.size_alloc] at h0); exact (h0.later ((Below.refl _ _).alloc (Nat.le_refl _) _))
  have Kr : Blk W1 (w.heap.size + 1) #[.int .i64 0, .int .i64 0, .int .i64 0, .string ⟨#[]⟩, .slice none 0 0] 25 := by rw [hW1]; have h0 := Blk.new (w.alloc (.cells #[.pointer (some ⟨B, 0, none⟩)] 69)) #[.int .i64 0, .int .i64 0, .int .i64 0, .string ⟨#[]⟩, .slice none 0 0] 25; (try simp only [World.size_alloc] at h0); exact h0
  have hA1 : At7 B v c w W1 := by rw [hW1]; exact (At7.of h).alloc _ |>.alloc _
  have hlt := h.lt
  have HW1 := Lib.hid hW1
  clear hW1 h
  go_enter Try.func39, Try.ntmps39
  go_upto_region 1 with fail
  rw [← HW1.out]
  clear HW1
  have p0 := cells1 Kp
  obtain ⟨⟨r0, r1, r2, r3, r4⟩, rf0, rf1, rf2, rf3, rf4⟩ := cells5 Kr
  obtain ⟨⟨tk, tp, tn, tt⟩, hT⟩ : ∃ t, t = c.peek := ⟨_, rfl⟩
  have HT := Lib.hid hT
  clear hT
  have HC := peek_l hA1.cur
  rw [← HT.out] at HC
  go_wp2_with fail
  refine HC.mono ?_; rintro e W2 ⟨rfl, hB⟩
  clear HC
  clear p0 r0 r1 r2 r3 r4 rf0 rf1 rf2 rf3 rf4
  have hA2 := hA1.below hB
  have Kp := Kp.kept (grownBy_below hB (some B)) (fun e => by injection e; omega)
  have Kr := Kr.kept (grownBy_below hB (some B)) (fun e => by injection e; omega)
  have hs3 := (grownBy_below hB (some B)).size
  clear hA1 hB
  go_upto_region 2 with fail
  obtain ⟨W4, hW4⟩ : ∃ x, x = W2.alloc (.cells #[.int .i64 tk, .int .i64 tp, .int .i64 tn, .string ⟨tt.toArray⟩] 37) := ⟨_, rfl⟩
  rw [← hW4]
  have hB : Below W2.heap.size W2 W4 := by rw [hW4]; exact (Below.refl _ _).alloc (Nat.le_refl _) _
  have Kt : Blk W4 W2.heap.size #[.int .i64 tk, .int .i64 tp, .int .i64 tn, .string ⟨tt.toArray⟩] 37 := by rw [hW4]; exact Blk.new W2 _ _
  have hz4 : W2.heap.size + 1 ≤ W4.heap.size := by rw [hW4]; simp
  clear hW4
  have hA4 := hA2.below hB
  have Kp := Kp.kept (grownBy_below hB (some B)) (fun e => by injection e; omega)
  have Kr := Kr.kept (grownBy_below hB (some B)) (fun e => by injection e; omega)
  have hs5 := (grownBy_below hB (some B)).size
  clear hA2 hB
  by_cases h1 : tk = 1
  case pos =>
    subst h1
    have HQ : Hid (atomP wh c = (c.adv, some (.mk 1 tp 0 tt []))) := by show _ = _; unfold atomP; rw [← HT.out]; rfl
    have p0 := cells1 Kp
    obtain ⟨⟨r0, r1, r2, r3, r4⟩, rf0, rf1, rf2, rf3, rf4⟩ := cells5 Kr
    obtain ⟨t0, t1, t2, t3⟩ := cells4 Kt
    have HC := next_l hA4.cur
    go_wp2_with fail
    refine HC.mono ?_; rintro e W6 ⟨rfl, hc, hg⟩
    clear HC
    clear p0 r0 r1 r2 r3 r4 rf0 rf1 rf2 rf3 rf4 t0 t1 t2 t3
    have hA6 := hA4.to hc hg
    have Kp := Kp.kept hg (fun e => by injection e; omega)
    have Kr := Kr.kept hg (fun e => by injection e; omega)
    have Kt := Kt.kept hg (fun e => by injection e; omega)
    have hs7 := hg.size
    clear hA4 hc hg
    obtain ⟨W7, hW7, hb7, hA7, hn7⟩ := read_end hA6 (b := w.heap.size + 1) (by omega) (z := zN) Kr ⟨1, tp, 0, tt, none, 0, 0⟩
    dsimp only [zN] at hW7 hb7
    have hd7 := (hn7 _ _ _ (leaf_in (fun b => w.heap.size + 1 + 1 ≤ b) _ 1 tp 0 tt) (by omega)).mono (S' := fun b => w.heap.size ≤ b) fun k hk _ => by omega
    have p0 := cells1 Kp
    obtain ⟨⟨r0, r1, r2, r3, r4⟩, rf0, rf1, rf2, rf3, rf4⟩ := cells5 Kr
    obtain ⟨t0, t1, t2, t3⟩ := cells4 Kt
    go_wp2_with fail
    rw [← hW7]
    obtain ⟨z0, z1, z2, z3, z4⟩ := hb7
    dsimp only at z0 z1 z2 z3 z4
    refine bodyPost_ret (v := .tuple #[NC.val ⟨1, tp, 0, tt, none, 0, 0⟩, .bool true]) (by simp [results, Try.results39, go_sem, z0, z1, z2, z3, z4, NC.val, zN]) rfl ⟨⟨1, tp, 0, tt, none, 0, 0⟩, by rw [HQ.out]; rfl, by rw [HQ.out]; exact hA7, by rw [HQ.out]; exact hd7⟩
  case neg =>
    by_cases h2 : tk = 2
    case pos =>
      subst h2
      have HQ : Hid (atomP wh c = (c.adv, some (.mk 2 tp 0 tt []))) := by show _ = _; unfold atomP; rw [← HT.out]; rfl
      have p0 := cells1 Kp
      obtain ⟨⟨r0, r1, r2, r3, r4⟩, rf0, rf1, rf2, rf3, rf4⟩ := cells5 Kr
      obtain ⟨t0, t1, t2, t3⟩ := cells4 Kt
      have HC := next_l hA4.cur
      go_wp2_with fail
      refine HC.mono ?_; rintro e W8 ⟨rfl, hc, hg⟩
      clear HC
      clear p0 r0 r1 r2 r3 r4 rf0 rf1 rf2 rf3 rf4 t0 t1 t2 t3
      have hA8 := hA4.to hc hg
      have Kp := Kp.kept hg (fun e => by injection e; omega)
      have Kr := Kr.kept hg (fun e => by injection e; omega)
      have Kt := Kt.kept hg (fun e => by injection e; omega)
      have hs9 := hg.size
      clear hA4 hc hg
      obtain ⟨W7, hW7, hb7, hA7, hn7⟩ := read_end hA8 (b := w.heap.size + 1) (by omega) (z := zN) Kr ⟨2, tp, 0, tt, none, 0, 0⟩
      dsimp only [zN] at hW7 hb7
      have hd7 := (hn7 _ _ _ (leaf_in (fun b => w.heap.size + 1 + 1 ≤ b) _ 2 tp 0 tt) (by omega)).mono (S' := fun b => w.heap.size ≤ b) fun k hk _ => by omega
      have p0 := cells1 Kp
      obtain ⟨⟨r0, r1, r2, r3, r4⟩, rf0, rf1, rf2, rf3, rf4⟩ := cells5 Kr
      obtain ⟨t0, t1, t2, t3⟩ := cells4 Kt
      go_wp2_with fail
      rw [← hW7]
      obtain ⟨z0, z1, z2, z3, z4⟩ := hb7
      dsimp only at z0 z1 z2 z3 z4
      refine bodyPost_ret (v := .tuple #[NC.val ⟨2, tp, 0, tt, none, 0, 0⟩, .bool true]) (by simp [results, Try.results39, go_sem, z0, z1, z2, z3, z4, NC.val, zN]) rfl ⟨⟨2, tp, 0, tt, none, 0, 0⟩, by rw [HQ.out]; rfl, by rw [HQ.out]; exact hA7, by rw [HQ.out]; exact hd7⟩
    case neg =>
      cases hi : c.is [40] with
      | false =>
        have HQ : Hid (atomP wh c = (c.fail 5, none)) := by show _ = _; unfold atomP; rw [← HT.out, if_neg h1, if_neg h2, hi]; rfl
        have p0 := cells1 Kp
        obtain ⟨⟨r0, r1, r2, r3, r4⟩, rf0, rf1, rf2, rf3, rf4⟩ := cells5 Kr
        obtain ⟨t0, t1, t2, t3⟩ := cells4 Kt
        have HC := is_l hA4.cur [40]
        rw [hi] at HC
        go_wp2_with fail
        refine HC.mono ?_; rintro e W10 ⟨rfl, hB⟩
        clear HC
        clear p0 r0 r1 r2 r3 r4 rf0 rf1 rf2 rf3 rf4 t0 t1 t2 t3
        have hA10 := hA4.below hB
        have Kp := Kp.kept (grownBy_below hB (some B)) (fun e => by injection e; omega)
        have Kr := Kr.kept (grownBy_below hB (some B)) (fun e => by injection e; omega)
        have Kt := Kt.kept (grownBy_below hB (some B)) (fun e => by injection e; omega)
        have hs11 := (grownBy_below hB (some B)).size
        clear hA4 hB
        have p0 := cells1 Kp
        obtain ⟨⟨r0, r1, r2, r3, r4⟩, rf0, rf1, rf2, rf3, rf4⟩ := cells5 Kr
        obtain ⟨t0, t1, t2, t3⟩ := cells4 Kt
        have HC := fail_any hA10.cur 5
        go_wp2_with fail
        refine HC.mono ?_; rintro e W12 ⟨rfl, hc, hg⟩
        clear HC
        clear p0 r0 r1 r2 r3 r4 rf0 rf1 rf2 rf3 rf4 t0 t1 t2 t3
        have hA12 := hA10.to hc hg
        have Kp := Kp.kept hg (fun e => by injection e; omega)
        have Kr := Kr.kept hg (fun e => by injection e; omega)
        have Kt := Kt.kept hg (fun e => by injection e; omega)
        have hs13 := hg.size
        clear hA10 hc hg
        obtain ⟨W7, hW7, hb7, hA7, hn7⟩ := read_end hA12 (b := w.heap.size + 1) (by omega) (z := zN) Kr zN
        dsimp only [zN] at hW7 hb7
        clear hn7
        have p0 := cells1 Kp
        obtain ⟨⟨r0, r1, r2, r3, r4⟩, rf0, rf1, rf2, rf3, rf4⟩ := cells5 Kr
        obtain ⟨t0, t1, t2, t3⟩ := cells4 Kt
        go_wp2_with fail
        rw [← hW7]
        obtain ⟨z0, z1, z2, z3, z4⟩ := hb7
        dsimp only at z0 z1 z2 z3 z4
        refine bodyPost_ret (v := .tuple #[NC.val zN, .bool false]) (by simp [results, Try.results39, go_sem, z0, z1, z2, z3, z4, NC.val, zN]) rfl ⟨zN, by rw [HQ.out]; rfl, by rw [HQ.out]; exact hA7, by rw [HQ.out]⟩
      | true =>
        have HQ : Hid (atomP wh c = deeper (inside wh) c) := by show _ = _; unfold atomP; rw [← HT.out, if_neg h1, if_neg h2, if_pos hi]
        have p0 := cells1 Kp
        obtain ⟨⟨r0, r1, r2, r3, r4⟩, rf0, rf1, rf2, rf3, rf4⟩ := cells5 Kr
        obtain ⟨t0, t1, t2, t3⟩ := cells4 Kt
        have HC := is_l hA4.cur [40]
        rw [hi] at HC
        go_wp2_with fail
        refine HC.mono ?_; rintro e W14 ⟨rfl, hB⟩
        clear HC
        clear p0 r0 r1 r2 r3 r4 rf0 rf1 rf2 rf3 rf4 t0 t1 t2 t3
        have hA14 := hA4.below hB
        have Kp := Kp.kept (grownBy_below hB (some B)) (fun e => by injection e; omega)
        have Kr := Kr.kept (grownBy_below hB (some B)) (fun e => by injection e; omega)
        have Kt := Kt.kept (grownBy_below hB (some B)) (fun e => by injection e; omega)
        have hs15 := (grownBy_below hB (some B)).size
        clear hA4 hB
        have p0 := cells1 Kp
        obtain ⟨⟨r0, r1, r2, r3, r4⟩, rf0, rf1, rf2, rf3, rf4⟩ := cells5 Kr
        obtain ⟨t0, t1, t2, t3⟩ := cells4 Kt
        have HC := brack_any (x := rdr B) (wh := wh) (enters_of Try.func50 (by kernel_rfl) rfl) hA14.cur (fun he hi W hc => HWH.out _ W (by rw [nest_in he hi]; have := HK.out; omega) hc)
        go_wp2_with fail
        refine HC.mono ?_; rintro e W16 ⟨d, rfl, hAc, hm⟩
        clear HC
        clear p0 r0 r1 r2 r3 r4 rf0 rf1 rf2 rf3 rf4 t0 t1 t2 t3
        have hA16 := hA14.trans hAc
        have Kp := Kp.kept hAc.grown (fun e => by injection e; omega)
        have Kr := Kr.kept hAc.grown (fun e => by injection e; omega)
        have Kt := Kt.kept hAc.grown (fun e => by injection e; omega)
        have hs17 := hAc.grown.size
        clear hA14 hAc
        obtain ⟨dk, dp, dn, dt, dq, dl, dc⟩ := d
        obtain ⟨W7, hW7, hb7, hA7, hn7⟩ := read_end hA16 (b := w.heap.size + 1) (by omega) (z := zN) Kr ⟨dk, dp, dn, dt, dq, dl, dc⟩
        dsimp only [zN] at hW7 hb7
        have hm7 := tree_pass (m := w.heap.size) hm hn7 (by omega) (by omega)
        clear hn7
        unfold NC.val
        have p0 := cells1 Kp
        obtain ⟨⟨r0, r1, r2, r3, r4⟩, rf0, rf1, rf2, rf3, rf4⟩ := cells5 Kr
        obtain ⟨t0, t1, t2, t3⟩ := cells4 Kt
        go_wp2_with fail
        rw [← hW7]
        obtain ⟨z0, z1, z2, z3, z4⟩ := hb7
        dsimp only at z0 z1 z2 z3 z4
        exact bodyPost_ret (v := .tuple #[NC.val ⟨dk, dp, dn, dt, dq, dl, dc⟩, .bool (deeper (inside wh) c).2.isSome]) (by simp [results, Try.results39, go_sem, z0, z1, z2, z3, z4, NC.val, zN]) rfl ⟨_, by rw [HQ.out], by rw [HQ.out]; exact hA7, by rw [HQ.out]; exact hm7⟩
end Go.Proofs.Ytlammclbnihopaa.N7
namespace Go.Proofs.Ytlammclbnihopaa.N7
open Go.RowKit N5 N6

attribute [local go_sem] fld0 fld1
set_option maxRecDepth 100000 in
set_option maxHeartbeats 4000000 in
theorem begins_any {w : World} {B : Nat} {v : Value} {c : Cu} (h : CurAt w B v c) : Calls Try.prog 115 #[rdr B] w (fun e w' => e = .returned (.bool (begins c)) ∧ At7 B v (c) w w') := by
  unfold rdr
  obtain ⟨W1, hW1⟩ : ∃ W1, W1 = (w.alloc (.cells #[.pointer (some ⟨B, 0, none⟩)] 69)) := ⟨_, rfl⟩
  have hsz : W1.heap.size = w.heap.size + 1 := by rw [hW1]; simp
  have Kp : Blk W1 (w.heap.size) #[.pointer (some ⟨B, 0, none⟩)] 69 := by rw [hW1]; have h0 := Blk.new w #[.pointer (some ⟨B, 0, none⟩)] 69; (try simp only [World.size_alloc] at h0); exact h0
  have hA1 : At7 B v c w W1 := by rw [hW1]; exact (At7.of h).alloc _
  have hlt := h.lt
  have HW1 := Lib.hid hW1
  clear hW1 h
  go_enter Try.func115, Try.ntmps115
  go_upto_region 1 with fail
  rw [← HW1.out]
  clear HW1
  have p0 := cells1 Kp
  obtain ⟨⟨tk, tp, tn, tt⟩, hT⟩ : ∃ t, t = c.peek := ⟨_, rfl⟩
  have HT := Lib.hid hT
  clear hT
  have HC := peek_l hA1.cur
  rw [← HT.out] at HC
  go_wp2_with fail
  refine HC.mono ?_; rintro e W2 ⟨rfl, hB⟩
  clear HC
  clear p0
  have hA2 := hA1.below hB
  have Kp := Kp.kept (grownBy_below hB (some B)) (fun e => by injection e; omega)
  have hs3 := (grownBy_below hB (some B)).size
  clear hA1 hB
  by_cases h1 : tk = 1
  case pos =>
    subst h1
    have HQ : Hid (begins c = true) := by show _ = _; unfold begins; rw [← HT.out]; rfl
    have p0 := cells1 Kp
    go_wp2_with fail
    go_ret
    exact ⟨by rw [HQ.out]; rfl, hA2⟩
  case neg =>
    by_cases h2 : tk = 2
    case pos =>
      subst h2
      have HQ : Hid (begins c = true) := by show _ = _; unfold begins; rw [← HT.out]; rfl
      have p0 := cells1 Kp
      go_wp2_with fail
      go_ret
      exact ⟨by rw [HQ.out]; rfl, hA2⟩
    case neg =>
      have HX : Hid (begins c = c.is [40]) := by show _ = _; unfold begins; rw [← HT.out]; simp [h1, h2]
      have p0 := cells1 Kp
      have HC := is_l hA2.cur [40]
      go_wp2_with fail
      refine HC.mono ?_; rintro e W4 ⟨rfl, hB⟩
      clear HC
      clear p0
      have hA4 := hA2.below hB
      have Kp := Kp.kept (grownBy_below hB (some B)) (fun e => by injection e; omega)
      have hs5 := (grownBy_below hB (some B)).size
      clear hA2 hB
      go_wp2_with fail
      go_ret
      exact ⟨by rw [HX.out]; exact congrArg (fun b => Ending.returned (Value.bool b)) (show (tk == 1 || tk == 2 || c.is [40]) = c.is [40] by simp [h1, h2]), hA4⟩
set_option maxRecDepth 100000 in
set_option maxHeartbeats 4000000 in
theorem comma_any {w : World} {B : Nat} {v : Value} {c : Cu} (h : CurAt w B v c) : Calls Try.prog 101 #[rdr B] w (fun e w' => e = .returned (.bool (c.is [44])) ∧ At7 B v (c.take [44]) w w') := by
  unfold rdr
  obtain ⟨W1, hW1⟩ : ∃ W1, W1 = (w.alloc (.cells #[.pointer (some ⟨B, 0, none⟩)] 69)) := ⟨_, rfl⟩
  have hsz : W1.heap.size = w.heap.size + 1 := by rw [hW1]; simp
  have Kp : Blk W1 (w.heap.size) #[.pointer (some ⟨B, 0, none⟩)] 69 := by rw [hW1]; have h0 := Blk.new w #[.pointer (some ⟨B, 0, none⟩)] 69; (try simp only [World.size_alloc] at h0); exact h0
  have hA1 : At7 B v c w W1 := by rw [hW1]; exact (At7.of h).alloc _
  have hlt := h.lt
  have HW1 := Lib.hid hW1
  clear hW1 h
  go_enter Try.func101, Try.ntmps101
  go_upto_region 1 with fail
  rw [← HW1.out]
  clear HW1
  have p0 := cells1 Kp
  have HC := take_l hA1.cur [44]
  go_wp2_with fail
  refine HC.mono ?_; rintro e W2 ⟨rfl, hc, hg⟩
  clear HC
  clear p0
  have hA2 := hA1.to hc hg
  have Kp := Kp.kept hg (fun e => by injection e; omega)
  have hs3 := hg.size
  clear hA1 hc hg
  go_wp2_with fail
  go_ret
  exact ⟨rfl, hA2⟩
set_option maxRecDepth 100000 in
set_option maxHeartbeats 4000000 in
theorem row_any {wh : Cu → Out Nd} {wr : Cu → Cu × Nd} {k : Nat} {w : World} {B : Nat} {v : Value} {c : Cu} (h : CurAt w B v c) (HP : Pair k wh wr) (hwh : ∀ (c : Cu) (W : World), 200 ≤ c.nest + k → CurAt W B v c → Calls Try.prog 50 #[rdr B] W (ReadTo B v (wh c) W)) (hk : 200 ≤ c.nest + (k + 1)) : Calls Try.prog 104 #[rdr B] w (ReadTo B v (rowP wh c) w) := by
  have HWH := Lib.hid hwh
  have HK := Lib.hid hk
  have HFEW := Lib.hid h.few
  clear hwh hk
  unfold rdr
  obtain ⟨W1, hW1⟩ : ∃ W1, W1 = ((w.alloc (.cells #[.pointer (some ⟨B, 0, none⟩)] 69)).alloc (.cells #[.int .i64 0, .int .i64 0, .int .i64 0, .string ⟨#[]⟩, .slice none 0 0] 25)) := ⟨_, rfl⟩
  have hsz : W1.heap.size = w.heap.size + 1 + 1 := by rw [hW1]; simp
  have Kp : Blk W1 (w.heap.size) #[.pointer (some ⟨B, 0, none⟩)] 69 := by rw [hW1]; have h0 := Blk.new w #[.pointer (some ⟨B, 0, none⟩)] 69; (try simp only [World.size_alloc] at h0); exact (h0.later ((Below.refl _ _).alloc (Nat.le_refl _) _))
  have Kr : Blk W1 (w.heap.size + 1) #[.int .i64 0, .int .i64 0, .int .i64 0, .string ⟨#[]⟩, .slice none 0 0] 25 := by rw [hW1]; have h0 := Blk.new (w.alloc (.cells #[.pointer (some ⟨B, 0, none⟩)] 69)) #[.int .i64 0, .int .i64 0, .int .i64 0, .string ⟨#[]⟩, .slice none 0 0] 25; (try simp only [World.size_alloc] at h0); exact h0
  have hA1 : At7 B v c w W1 := by rw [hW1]; exact (At7.of h).alloc _ |>.alloc _
  have hlt := h.lt
  have HW1 := Lib.hid hW1
  clear hW1 h
  go_enter Try.func104, Try.ntmps104
  go_upto_region 1 with fail
  rw [← HW1.out]
  clear HW1
  have p0 := cells1 Kp
  obtain ⟨⟨r0, r1, r2, r3, r4⟩, rf0, rf1, rf2, rf3, rf4⟩ := cells5 Kr
  obtain ⟨⟨tk, tp, tn, tt⟩, hT⟩ : ∃ t, t = c.peek := ⟨_, rfl⟩
  have HT := Lib.hid hT
  clear hT
  have HC := peek_l hA1.cur
  rw [← HT.out] at HC
  go_wp2_with fail
  refine HC.mono ?_; rintro e W2 ⟨rfl, hB⟩
  clear HC
  clear p0 r0 r1 r2 r3 r4 rf0 rf1 rf2 rf3 rf4
  have hA2 := hA1.below hB
  have Kp := Kp.kept (grownBy_below hB (some B)) (fun e => by injection e; omega)
  have Kr := Kr.kept (grownBy_below hB (some B)) (fun e => by injection e; omega)
  have hs3 := (grownBy_below hB (some B)).size
  clear hA1 hB
  by_cases h2 : tk = 2
  case neg =>
    have HQ : Hid (rowP wh c = atomP wh c) := by show _ = _; unfold rowP; rw [← HT.out, if_neg h2]
    have p0 := cells1 Kp
    obtain ⟨⟨r0, r1, r2, r3, r4⟩, rf0, rf1, rf2, rf3, rf4⟩ := cells5 Kr
    have HC := atom_any hA2.cur HWH.out HK.out
    go_wp2_with fail
    refine HC.mono ?_; rintro e W4 ⟨d, rfl, hAc, hm⟩
    clear HC
    clear p0 r0 r1 r2 r3 r4 rf0 rf1 rf2 rf3 rf4
    have hA4 := hA2.trans hAc
    have Kp := Kp.kept hAc.grown (fun e => by injection e; omega)
    have Kr := Kr.kept hAc.grown (fun e => by injection e; omega)
    have hs5 := hAc.grown.size
    clear hA2 hAc
    obtain ⟨dk, dp, dn, dt, dq, dl, dc⟩ := d
    obtain ⟨W7, hW7, hb7, hA7, hn7⟩ := read_end hA4 (b := w.heap.size + 1) (by omega) (z := zN) Kr ⟨dk, dp, dn, dt, dq, dl, dc⟩
    dsimp only [zN] at hW7 hb7
    have hm7 := tree_pass (m := w.heap.size) hm hn7 (by omega) (by omega)
    clear hn7
    unfold NC.val
    have p0 := cells1 Kp
    obtain ⟨⟨r0, r1, r2, r3, r4⟩, rf0, rf1, rf2, rf3, rf4⟩ := cells5 Kr
    go_wp2_with fail
    rw [← hW7]
    obtain ⟨z0, z1, z2, z3, z4⟩ := hb7
    dsimp only at z0 z1 z2 z3 z4
    exact bodyPost_ret (v := .tuple #[NC.val ⟨dk, dp, dn, dt, dq, dl, dc⟩, .bool (atomP wh c).2.isSome]) (by simp [results, Try.results104, go_sem, z0, z1, z2, z3, z4, NC.val, zN]) rfl ⟨_, by rw [HQ.out], by rw [HQ.out]; exact hA7, by rw [HQ.out]; exact hm7⟩
  case pos =>
    subst h2
    have h0 : c.err = 0 := peek_err (by rw [← HT.out]; exact (by decide : (2 : Int) ≠ 0))
    have fa := fine_adv c
    have ea : c.adv.err = 0 := by rw [adv_err]; exact h0
    have H0 := Lib.hid (⟨fa.nest ea, fa.ws⟩ : c.adv.nest = c.nest ∧ c.adv.ws = c.ws)
    clear h0 fa ea
    have p0 := cells1 Kp
    obtain ⟨⟨r0, r1, r2, r3, r4⟩, rf0, rf1, rf2, rf3, rf4⟩ := cells5 Kr
    have HC := next_l hA2.cur
    rw [← HT.out] at HC
    go_wp2_with fail
    refine HC.mono ?_; rintro e W6 ⟨rfl, hc, hg⟩
    clear HC
    clear p0 r0 r1 r2 r3 r4 rf0 rf1 rf2 rf3 rf4
    have hA6 := hA2.to hc hg
    have Kp := Kp.kept hg (fun e => by injection e; omega)
    have Kr := Kr.kept hg (fun e => by injection e; omega)
    have hs7 := hg.size
    clear hA2 hc hg
    go_upto_region 4 with fail
    obtain ⟨W8, hW8⟩ : ∃ x, x = W6.alloc (.cells #[.int .i64 2, .int .i64 tp, .int .i64 tn, .string ⟨tt.toArray⟩] 37) := ⟨_, rfl⟩
    rw [← hW8]
    have hB : Below W6.heap.size W6 W8 := by rw [hW8]; exact (Below.refl _ _).alloc (Nat.le_refl _) _
    have Kt : Blk W8 W6.heap.size #[.int .i64 2, .int .i64 tp, .int .i64 tn, .string ⟨tt.toArray⟩] 37 := by rw [hW8]; exact Blk.new W6 _ _
    have hz8 : W6.heap.size + 1 ≤ W8.heap.size := by rw [hW8]; simp
    clear hW8
    have hA8 := hA6.below hB
    have Kp := Kp.kept (grownBy_below hB (some B)) (fun e => by injection e; omega)
    have Kr := Kr.kept (grownBy_below hB (some B)) (fun e => by injection e; omega)
    have hs9 := (grownBy_below hB (some B)).size
    clear hA6 hB
    have p0 := cells1 Kp
    obtain ⟨⟨r0, r1, r2, r3, r4⟩, rf0, rf1, rf2, rf3, rf4⟩ := cells5 Kr
    obtain ⟨t0, t1, t2, t3⟩ := cells4 Kt
    have HC := many_any (enters_of Try.func115 (by kernel_rfl) rfl) (enters_of Try.func39 (by kernel_rfl) rfl) (go := begins) (nx := id) (rd := atomP wh) (fun d => 200 ≤ d.nest + (k + 1)) (c.ws.length + 1) (by have := HFEW.out; omega) hA8.cur (by rw [H0.out.1]; exact HK.out) (by rw [H0.out.2]; omega) (fun d W _ hd => begins_any hd) (fun d W hi _ hd => atom_any hd HWH.out hi) (fun d e n hi hb he => atom_step HP hi hb he)
    go_wp2_with fail
    refine HC.mono ?_; rintro e W10 ⟨val, rfl, hAc, hm⟩
    clear HC
    clear p0 r0 r1 r2 r3 r4 rf0 rf1 rf2 rf3 rf4 t0 t1 t2 t3
    have hA10 := hA8.trans hAc
    have Kp := Kp.kept hAc.grown (fun e => by injection e; omega)
    have Kr := Kr.kept hAc.grown (fun e => by injection e; omega)
    have Kt := Kt.kept hAc.grown (fun e => by injection e; omega)
    have hs11 := hAc.grown.size
    clear hA8 hAc
    cases ho : (manyP begins id (atomP wh) (c.ws.length + 1) c.adv []).2 with
    | none =>
      have HQ : Hid (rowP wh c = ((manyP begins id (atomP wh) (c.ws.length + 1) c.adv []).1, none)) := by show _ = _; unfold rowP; rw [← HT.out, if_pos rfl, out_eq ho]
      rw [ho] at hm
      obtain rfl : val = .slice none 0 0 := hm
      simp only [Option.isSome_none]
      have p0 := cells1 Kp
      obtain ⟨⟨r0, r1, r2, r3, r4⟩, rf0, rf1, rf2, rf3, rf4⟩ := cells5 Kr
      obtain ⟨t0, t1, t2, t3⟩ := cells4 Kt
      obtain ⟨W7, hW7, hb7, hA7, hn7⟩ := read_end hA10 (b := w.heap.size + 1) (by omega) (z := zN) Kr zN
      dsimp only [zN] at hW7 hb7
      clear hn7
      have p0 := cells1 Kp
      obtain ⟨⟨r0, r1, r2, r3, r4⟩, rf0, rf1, rf2, rf3, rf4⟩ := cells5 Kr
      obtain ⟨t0, t1, t2, t3⟩ := cells4 Kt
      go_wp2_with fail
      rw [← hW7]
      obtain ⟨z0, z1, z2, z3, z4⟩ := hb7
      dsimp only at z0 z1 z2 z3 z4
      refine bodyPost_ret (v := .tuple #[NC.val zN, .bool false]) (by simp [results, Try.results104, go_sem, z0, z1, z2, z3, z4, NC.val, zN]) rfl ⟨zN, by rw [HQ.out]; rfl, by rw [HQ.out]; exact hA7, by rw [HQ.out]⟩
    | some ks =>
      have HQ : Hid (rowP wh c = ((manyP begins id (atomP wh) (c.ws.length + 1) c.adv []).1, some (.mk 2 tp 0 tt ks))) := by show _ = _; unfold rowP; rw [← HT.out, if_pos rfl, out_eq ho]
      rw [ho] at hm
      have hO : OwnRows _ _ val ks := hm
      clear hm
      obtain ⟨q, cap, rfl⟩ := hO.shape
      have hT := hO.node 2 tp 0 tt
      simp only [Option.isSome_some]
      have p0 := cells1 Kp
      obtain ⟨⟨r0, r1, r2, r3, r4⟩, rf0, rf1, rf2, rf3, rf4⟩ := cells5 Kr
      obtain ⟨t0, t1, t2, t3⟩ := cells4 Kt
      obtain ⟨W7, hW7, hb7, hA7, hn7⟩ := read_end hA10 (b := w.heap.size + 1) (by omega) (z := zN) Kr ⟨2, tp, 0, tt, q, ks.length, cap⟩
      dsimp only [zN] at hW7 hb7
      have hd7 := (hn7 _ _ _ hT (by omega)).mono (S' := fun b => w.heap.size ≤ b) fun k hk _ => by omega
      have p0 := cells1 Kp
      obtain ⟨⟨r0, r1, r2, r3, r4⟩, rf0, rf1, rf2, rf3, rf4⟩ := cells5 Kr
      obtain ⟨t0, t1, t2, t3⟩ := cells4 Kt
      go_wp2_with fail
      rw [← hW7]
      obtain ⟨z0, z1, z2, z3, z4⟩ := hb7
      dsimp only at z0 z1 z2 z3 z4
      refine bodyPost_ret (v := .tuple #[NC.val ⟨2, tp, 0, tt, q, ks.length, cap⟩, .bool true]) (by simp [results, Try.results104, go_sem, z0, z1, z2, z3, z4, NC.val, zN]) rfl ⟨⟨2, tp, 0, tt, q, ks.length, cap⟩, by rw [HQ.out]; rfl, by rw [HQ.out]; exact hA7, by rw [HQ.out]; exact hd7⟩
end Go.Proofs.Ytlammclbnihopaa.N7
namespace Go.Proofs.Ytlammclbnihopaa.N7
open Go.RowKit N5 N6

attribute [local go_sem] fld0 fld1
set_option maxRecDepth 100000 in
set_option maxHeartbeats 4000000 in
theorem arrow_any {wh : Cu → Out Nd} {wr : Cu → Cu × Nd} {k : Nat} {w : World} {B : Nat} {v : Value} {c : Cu} (h : CurAt w B v c) (HP : Pair k wh wr) (hwh : ∀ (c : Cu) (W : World), 200 ≤ c.nest + k → CurAt W B v c → Calls Try.prog 50 #[rdr B] W (ReadTo B v (wh c) W)) (hk : 200 ≤ c.nest + k) : Calls Try.prog 78 #[rdr B] w (ReadTo B v (arrowP wh c) w) := by
  have HWH := Lib.hid hwh
  have HK := Lib.hid hk
  clear hwh hk
  unfold rdr
  obtain ⟨W1, hW1⟩ : ∃ W1, W1 = ((w.alloc (.cells #[.pointer (some ⟨B, 0, none⟩)] 69)).alloc (.cells #[.int .i64 0, .int .i64 0, .int .i64 0, .string ⟨#[]⟩, .slice none 0 0] 25)) := ⟨_, rfl⟩
  have hsz : W1.heap.size = w.heap.size + 1 + 1 := by rw [hW1]; simp
  have Kp : Blk W1 (w.heap.size) #[.pointer (some ⟨B, 0, none⟩)] 69 := by rw [hW1]; have h0 := Blk.new w #[.pointer (some ⟨B, 0, none⟩)] 69; (try simp only [World.size_alloc] at h0); exact (h0.later ((Below.refl _ _).alloc (Nat.le_refl _) _))
  have Kr : Blk W1 (w.heap.size + 1) #[.int .i64 0, .int .i64 0, .int .i64 0, .string ⟨#[]⟩, .slice none 0 0] 25 := by rw [hW1]; have h0 := Blk.new (w.alloc (.cells #[.pointer (some ⟨B, 0, none⟩)] 69)) #[.int .i64 0, .int .i64 0, .int .i64 0, .string ⟨#[]⟩, .slice none 0 0] 25; (try simp only [World.size_alloc] at h0); exact h0
  have hA1 : At7 B v c w W1 := by rw [hW1]; exact (At7.of h).alloc _ |>.alloc _
  have hlt := h.lt
  have HW1 := Lib.hid hW1
  clear hW1 h
  go_enter Try.func78, Try.ntmps78
  go_upto_region 1 with fail
  rw [← HW1.out]
  clear HW1
  have p0 := cells1 Kp
  obtain ⟨⟨r0, r1, r2, r3, r4⟩, rf0, rf1, rf2, rf3, rf4⟩ := cells5 Kr
  have HC := row_any hA1.cur HP HWH.out (by have := HK.out; omega)
  go_wp2_with fail
  refine HC.mono ?_; rintro e W2 ⟨d, rfl, hAc, hm⟩
  clear HC
  clear p0 r0 r1 r2 r3 r4 rf0 rf1 rf2 rf3 rf4
  have hA2 := hA1.trans hAc
  have Kp := Kp.kept hAc.grown (fun e => by injection e; omega)
  have Kr := Kr.kept hAc.grown (fun e => by injection e; omega)
  have hs3 := hAc.grown.size
  clear hA1 hAc
  obtain ⟨dk, dp, dn, dt, dq, dl, dc⟩ := d
  cases ho : (rowP wh c).2 with
  | none =>
    have HQ : Hid (arrowP wh c = ((rowP wh c).1, none)) := by show _ = _; unfold arrowP; rw [out_eq ho]
    rw [ho] at hm
    unfold NC.val
    simp only [Option.isSome_none]
    have hm : NC.mk dk dp dn dt dq dl dc = NC.mk 0 0 0 [] none 0 0 := hm
    injection hm with q1 q2 q3 q4 q5 q6 q7
    subst q1 q2 q3 q4 q5 q6 q7
    have p0 := cells1 Kp
    obtain ⟨⟨r0, r1, r2, r3, r4⟩, rf0, rf1, rf2, rf3, rf4⟩ := cells5 Kr
    go_upto_region 2 with fail
    obtain ⟨W4, hW4⟩ : ∃ x, x = W2.alloc (.cells #[.int .i64 0, .int .i64 0, .int .i64 0, .string ⟨#[]⟩, .slice none 0 0] 25) := ⟨_, rfl⟩
    rw [← hW4]
    have hB : Below W2.heap.size W2 W4 := by rw [hW4]; exact (Below.refl _ _).alloc (Nat.le_refl _) _
    have Kd : Blk W4 W2.heap.size #[.int .i64 0, .int .i64 0, .int .i64 0, .string ⟨#[]⟩, .slice none 0 0] 25 := by rw [hW4]; exact Blk.new W2 _ _
    have hz4 : W2.heap.size + 1 ≤ W4.heap.size := by rw [hW4]; simp
    clear hW4
    clear p0 r0 r1 r2 r3 r4 rf0 rf1 rf2 rf3 rf4
    have hA4 := hA2.below hB
    have Kp := Kp.kept (grownBy_below hB (some B)) (fun e => by injection e; omega)
    have Kr := Kr.kept (grownBy_below hB (some B)) (fun e => by injection e; omega)
    have hs5 := (grownBy_below hB (some B)).size
    clear hA2 hB
    obtain ⟨W7, hW7, hb7, hA7, hn7⟩ := read_end hA4 (b := w.heap.size + 1) (by omega) (z := zN) Kr zN
    dsimp only [zN] at hW7 hb7
    clear hn7
    have p0 := cells1 Kp
    obtain ⟨⟨r0, r1, r2, r3, r4⟩, rf0, rf1, rf2, rf3, rf4⟩ := cells5 Kr
    obtain ⟨⟨d0, d1, d2, d3, d4⟩, -⟩ := cells5 Kd
    go_wp2_with fail
    rw [← hW7]
    obtain ⟨z0, z1, z2, z3, z4⟩ := hb7
    dsimp only at z0 z1 z2 z3 z4
    refine bodyPost_ret (v := .tuple #[NC.val zN, .bool false]) (by simp [results, Try.results78, go_sem, z0, z1, z2, z3, z4, NC.val, zN]) rfl ⟨zN, by rw [HQ.out]; rfl, by rw [HQ.out]; exact hA7, by rw [HQ.out]⟩
  | some t =>
    rw [ho] at hm
    have Td : NodeAt _ _ _ t := hm
    clear hm
    have HN := Lib.hid ((pair_row HP c (by have := HK.out; omega)).nest_of (out_eq ho))
    obtain rfl : dp = t.pos := Td.pos
    unfold NC.val
    simp only [Option.isSome_some]
    have p0 := cells1 Kp
    obtain ⟨⟨r0, r1, r2, r3, r4⟩, rf0, rf1, rf2, rf3, rf4⟩ := cells5 Kr
    go_upto_region 2 with fail
    obtain ⟨W6, hW6⟩ : ∃ x, x = W2.alloc (.cells #[.int .i64 dk, .int .i64 t.pos, .int .i64 dn, .string ⟨dt.toArray⟩, .slice dq dl dc] 25) := ⟨_, rfl⟩
    rw [← hW6]
    have hB : Below W2.heap.size W2 W6 := by rw [hW6]; exact (Below.refl _ _).alloc (Nat.le_refl _) _
    have Kd : Blk W6 W2.heap.size #[.int .i64 dk, .int .i64 t.pos, .int .i64 dn, .string ⟨dt.toArray⟩, .slice dq dl dc] 25 := by rw [hW6]; exact Blk.new W2 _ _
    have hz6 : W2.heap.size + 1 ≤ W6.heap.size := by rw [hW6]; simp
    clear hW6
    clear p0 r0 r1 r2 r3 r4 rf0 rf1 rf2 rf3 rf4
    have hA6 := hA2.below hB
    have Kp := Kp.kept (grownBy_below hB (some B)) (fun e => by injection e; omega)
    have Kr := Kr.kept (grownBy_below hB (some B)) (fun e => by injection e; omega)
    have Td := Td.keeps (w' := W6) ⟨(grownBy_below hB (some B)).size, fun k hk hkl => (grownBy_below hB (some B)).block k hkl (fun e => by injection e; omega)⟩
    have hs7 := (grownBy_below hB (some B)).size
    clear hA2 hB
    cases hi : (rowP wh c).1.is [45, 62] with
    | false =>
      have HQ : Hid (arrowP wh c = ((rowP wh c).1.take [45, 62], some t)) := by show _ = _; unfold arrowP; rw [out_eq ho]; dsimp only; rw [hi]; rfl
      have p0 := cells1 Kp
      obtain ⟨⟨r0, r1, r2, r3, r4⟩, rf0, rf1, rf2, rf3, rf4⟩ := cells5 Kr
      obtain ⟨⟨d0, d1, d2, d3, d4⟩, -⟩ := cells5 Kd
      have HC := take_l hA6.cur [45, 62]
      rw [hi] at HC
      go_wp2_with fail
      refine HC.mono ?_; rintro e W8 ⟨rfl, hc, hg⟩
      clear HC
      clear p0 r0 r1 r2 r3 r4 rf0 rf1 rf2 rf3 rf4 d0 d1 d2 d3 d4
      have hA8 := hA6.to hc hg
      have Kp := Kp.kept hg (fun e => by injection e; omega)
      have Kr := Kr.kept hg (fun e => by injection e; omega)
      have Kd := Kd.kept hg (fun e => by injection e; omega)
      have Td := Td.keeps (w' := W8) ⟨hg.size, fun k hk hkl => hg.block k hkl (fun e => by injection e; omega)⟩
      have hs9 := hg.size
      clear hA6 hc hg
      obtain ⟨W7, hW7, hb7, hA7, hn7⟩ := read_end hA8 (b := w.heap.size + 1) (by omega) (z := zN) Kr ⟨dk, t.pos, dn, dt, dq, dl, dc⟩
      dsimp only [zN] at hW7 hb7
      have hd7 := (hn7 _ _ _ Td (by omega)).mono (S' := fun b => w.heap.size ≤ b) fun k hk _ => by omega
      have p0 := cells1 Kp
      obtain ⟨⟨r0, r1, r2, r3, r4⟩, rf0, rf1, rf2, rf3, rf4⟩ := cells5 Kr
      obtain ⟨⟨d0, d1, d2, d3, d4⟩, -⟩ := cells5 Kd
      go_wp2_with fail
      rw [← hW7]
      obtain ⟨z0, z1, z2, z3, z4⟩ := hb7
      dsimp only at z0 z1 z2 z3 z4
      refine bodyPost_ret (v := .tuple #[NC.val ⟨dk, t.pos, dn, dt, dq, dl, dc⟩, .bool true]) (by simp [results, Try.results78, go_sem, z0, z1, z2, z3, z4, NC.val, zN]) rfl ⟨⟨dk, t.pos, dn, dt, dq, dl, dc⟩, by rw [HQ.out]; rfl, by rw [HQ.out]; exact hA7, by rw [HQ.out]; exact hd7⟩
    | true =>
      have p0 := cells1 Kp
      obtain ⟨⟨r0, r1, r2, r3, r4⟩, rf0, rf1, rf2, rf3, rf4⟩ := cells5 Kr
      obtain ⟨⟨d0, d1, d2, d3, d4⟩, -⟩ := cells5 Kd
      have HC := take_l hA6.cur [45, 62]
      rw [hi] at HC
      go_wp2_with fail
      refine HC.mono ?_; rintro e W10 ⟨rfl, hc, hg⟩
      clear HC
      clear p0 r0 r1 r2 r3 r4 rf0 rf1 rf2 rf3 rf4 d0 d1 d2 d3 d4
      have hA10 := hA6.to hc hg
      have Kp := Kp.kept hg (fun e => by injection e; omega)
      have Kr := Kr.kept hg (fun e => by injection e; omega)
      have Kd := Kd.kept hg (fun e => by injection e; omega)
      have Td := Td.keeps (w' := W10) ⟨hg.size, fun k hk hkl => hg.block k hkl (fun e => by injection e; omega)⟩
      have hs11 := hg.size
      clear hA6 hc hg
      have p0 := cells1 Kp
      obtain ⟨⟨r0, r1, r2, r3, r4⟩, rf0, rf1, rf2, rf3, rf4⟩ := cells5 Kr
      obtain ⟨⟨d0, d1, d2, d3, d4⟩, -⟩ := cells5 Kd
      have HC := HWH.out ((rowP wh c).1.take [45, 62]) W10 (by rw [(fine_take _ _).nest (by rw [take_err]; exact HN.out.2.2.1), HN.out.1]; exact HK.out) hA10.cur
      go_wp2_with fail
      refine HC.mono ?_; rintro e W12 ⟨e2, rfl, hAc, hm⟩
      clear HC
      clear p0 r0 r1 r2 r3 r4 rf0 rf1 rf2 rf3 rf4 d0 d1 d2 d3 d4
      have hA12 := hA10.trans hAc
      have Kp := Kp.kept hAc.grown (fun e => by injection e; omega)
      have Kr := Kr.kept hAc.grown (fun e => by injection e; omega)
      have Kd := Kd.kept hAc.grown (fun e => by injection e; omega)
      have Td := Td.keeps (w' := W12) ⟨hAc.grown.size, fun k hk hkl => hAc.grown.block k hkl (fun e => by injection e; omega)⟩
      have hs13 := hAc.grown.size
      clear hA10 hAc
      obtain ⟨ek, ep, en, et, eq, el, ec⟩ := e2
      cases hp : (wh ((rowP wh c).1.take [45, 62])).2 with
      | none =>
        have HQ : Hid (arrowP wh c = ((wh ((rowP wh c).1.take [45, 62])).1, none)) := by show _ = _; unfold arrowP; rw [out_eq ho]; dsimp only; rw [if_pos hi, out_eq hp]
        rw [hp] at hm
        unfold NC.val
        simp only [Option.isSome_none]
        have hm : NC.mk ek ep en et eq el ec = NC.mk 0 0 0 [] none 0 0 := hm
        injection hm with q1 q2 q3 q4 q5 q6 q7
        subst q1 q2 q3 q4 q5 q6 q7
        have p0 := cells1 Kp
        obtain ⟨⟨r0, r1, r2, r3, r4⟩, rf0, rf1, rf2, rf3, rf4⟩ := cells5 Kr
        obtain ⟨⟨d0, d1, d2, d3, d4⟩, -⟩ := cells5 Kd
        go_upto_region 5 with fail
        obtain ⟨W14, hW14⟩ : ∃ x, x = W12.alloc (.cells #[.int .i64 0, .int .i64 0, .int .i64 0, .string ⟨#[]⟩, .slice none 0 0] 25) := ⟨_, rfl⟩
        rw [← hW14]
        have hB : Below W12.heap.size W12 W14 := by rw [hW14]; exact (Below.refl _ _).alloc (Nat.le_refl _) _
        have Ke : Blk W14 W12.heap.size #[.int .i64 0, .int .i64 0, .int .i64 0, .string ⟨#[]⟩, .slice none 0 0] 25 := by rw [hW14]; exact Blk.new W12 _ _
        have hz14 : W12.heap.size + 1 ≤ W14.heap.size := by rw [hW14]; simp
        clear hW14
        clear p0 r0 r1 r2 r3 r4 rf0 rf1 rf2 rf3 rf4 d0 d1 d2 d3 d4
        have hA14 := hA12.below hB
        have Kp := Kp.kept (grownBy_below hB (some B)) (fun e => by injection e; omega)
        have Kr := Kr.kept (grownBy_below hB (some B)) (fun e => by injection e; omega)
        have Kd := Kd.kept (grownBy_below hB (some B)) (fun e => by injection e; omega)
        have Td := Td.keeps (w' := W14) ⟨(grownBy_below hB (some B)).size, fun k hk hkl => (grownBy_below hB (some B)).block k hkl (fun e => by injection e; omega)⟩
        have hs15 := (grownBy_below hB (some B)).size
        clear hA12 hB
        obtain ⟨W7, hW7, hb7, hA7, hn7⟩ := read_end hA14 (b := w.heap.size + 1) (by omega) (z := zN) Kr zN
        dsimp only [zN] at hW7 hb7
        clear hn7
        have p0 := cells1 Kp
        obtain ⟨⟨r0, r1, r2, r3, r4⟩, rf0, rf1, rf2, rf3, rf4⟩ := cells5 Kr
        obtain ⟨⟨d0, d1, d2, d3, d4⟩, -⟩ := cells5 Kd
        obtain ⟨⟨e0, e1, e2, e3, e4⟩, -⟩ := cells5 Ke
        go_wp2_with fail
        rw [← hW7]
        obtain ⟨z0, z1, z2, z3, z4⟩ := hb7
        dsimp only at z0 z1 z2 z3 z4
        refine bodyPost_ret (v := .tuple #[NC.val zN, .bool false]) (by simp [results, Try.results78, go_sem, z0, z1, z2, z3, z4, NC.val, zN]) rfl ⟨zN, by rw [HQ.out]; rfl, by rw [HQ.out]; exact hA7, by rw [HQ.out]⟩
      | some u =>
        have HQ : Hid (arrowP wh c = ((wh ((rowP wh c).1.take [45, 62])).1, some (.mk 2 t.pos 0 [45, 62] [t, u]))) := by show _ = _; unfold arrowP; rw [out_eq ho]; dsimp only; rw [if_pos hi, out_eq hp]
        rw [hp] at hm
        have Te : NodeAt _ _ _ u := hm
        clear hm
        unfold NC.val
        simp only [Option.isSome_some]
        have p0 := cells1 Kp
        obtain ⟨⟨r0, r1, r2, r3, r4⟩, rf0, rf1, rf2, rf3, rf4⟩ := cells5 Kr
        obtain ⟨⟨d0, d1, d2, d3, d4⟩, -⟩ := cells5 Kd
        go_upto_region 5 with fail
        obtain ⟨W16, hW16⟩ : ∃ x, x = W12.alloc (.cells #[.int .i64 ek, .int .i64 ep, .int .i64 en, .string ⟨et.toArray⟩, .slice eq el ec] 25) := ⟨_, rfl⟩
        rw [← hW16]
        have hB : Below W12.heap.size W12 W16 := by rw [hW16]; exact (Below.refl _ _).alloc (Nat.le_refl _) _
        have Ke : Blk W16 W12.heap.size #[.int .i64 ek, .int .i64 ep, .int .i64 en, .string ⟨et.toArray⟩, .slice eq el ec] 25 := by rw [hW16]; exact Blk.new W12 _ _
        have hz16 : W12.heap.size + 1 ≤ W16.heap.size := by rw [hW16]; simp
        clear hW16
        clear p0 r0 r1 r2 r3 r4 rf0 rf1 rf2 rf3 rf4 d0 d1 d2 d3 d4
        have hA16 := hA12.below hB
        have Kp := Kp.kept (grownBy_below hB (some B)) (fun e => by injection e; omega)
        have Kr := Kr.kept (grownBy_below hB (some B)) (fun e => by injection e; omega)
        have Kd := Kd.kept (grownBy_below hB (some B)) (fun e => by injection e; omega)
        have Td := Td.keeps (w' := W16) ⟨(grownBy_below hB (some B)).size, fun k hk hkl => (grownBy_below hB (some B)).block k hkl (fun e => by injection e; omega)⟩
        have Te := Te.keeps (w' := W16) ⟨(grownBy_below hB (some B)).size, fun k hk hkl => (grownBy_below hB (some B)).block k hkl (fun e => by injection e; omega)⟩
        have hs17 := (grownBy_below hB (some B)).size
        clear hA12 hB
        have p0 := cells1 Kp
        obtain ⟨⟨r0, r1, r2, r3, r4⟩, rf0, rf1, rf2, rf3, rf4⟩ := cells5 Kr
        obtain ⟨⟨d0, d1, d2, d3, d4⟩, -⟩ := cells5 Kd
        obtain ⟨⟨e0, e1, e2, e3, e4⟩, -⟩ := cells5 Ke
        clear p0 r0 r1 r2 r3 r4 rf0 rf1 rf2 rf3 rf4 d0 d1 d2 d3 d4 e0 e1 e2 e3 e4
        obtain ⟨W18, hV18⟩ : ∃ x, x = W16.alloc (.cells #[.int .i64 dk, .int .i64 t.pos, .int .i64 dn, .string ⟨dt.toArray⟩, .slice dq dl dc, .int .i64 ek, .int .i64 ep, .int .i64 en, .string ⟨et.toArray⟩, .slice eq el ec] 25) := ⟨_, rfl⟩
        have HV := Lib.hid hV18
        have hB : Below W16.heap.size W16 W18 := by rw [hV18]; exact (Below.refl _ _).alloc (Nat.le_refl _) _
        have KL : Blk W18 W16.heap.size #[.int .i64 dk, .int .i64 t.pos, .int .i64 dn, .string ⟨dt.toArray⟩, .slice dq dl dc, .int .i64 ek, .int .i64 ep, .int .i64 en, .string ⟨et.toArray⟩, .slice eq el ec] 25 := by rw [hV18]; exact Blk.new W16 _ _
        have hz18 : W16.heap.size + 1 ≤ W18.heap.size := by rw [hV18]; simp
        clear hV18
        have hA19 := hA16.below hB
        have Lp := Kp.kept (grownBy_below hB (some B)) (fun e => by injection e; omega)
        have Lr := Kr.kept (grownBy_below hB (some B)) (fun e => by injection e; omega)
        have Ld := Kd.kept (grownBy_below hB (some B)) (fun e => by injection e; omega)
        have Le := Ke.kept (grownBy_below hB (some B)) (fun e => by injection e; omega)
        have Td := (Td.mono (S' := fun k => w.heap.size + 1 + 1 ≤ k ∧ k ≠ W16.heap.size) fun k hk hl => ⟨by omega, by omega⟩).keeps (w' := W18) ⟨hB.size, fun k hk hkl => hB.block k hkl⟩
        have Te := (Te.mono (S' := fun k => w.heap.size + 1 + 1 ≤ k ∧ k ≠ W16.heap.size) fun k hk hl => ⟨by omega, by omega⟩).keeps (w' := W18) ⟨hB.size, fun k hk hkl => hB.block k hkl⟩
        have hs20 := hB.size
        have hT := (OwnRows.two (n := w.heap.size + 1 + 1) (d := ⟨dk, t.pos, dn, dt, dq, dl, dc⟩) (e := ⟨ek, ep, en, et, eq, el, ec⟩) KL (by omega) Td Te).node 2 t.pos 0 [45, 62]
        obtain ⟨W7, hW7, hb7, hA7, hn7⟩ := read_end hA19 (b := w.heap.size + 1) (by omega) (z := zN) Lr ⟨2, t.pos, 0, [45, 62], some ⟨W16.heap.size, 0, none⟩, 2, 2⟩
        dsimp only [zN] at hW7 hb7
        have hd7 := (hn7 _ _ _ hT (by omega)).mono (S' := fun b => w.heap.size ≤ b) fun k hk _ => by omega
        have p0 := cells1 Kp
        obtain ⟨⟨r0, r1, r2, r3, r4⟩, rf0, rf1, rf2, rf3, rf4⟩ := cells5 Kr
        obtain ⟨⟨d0, d1, d2, d3, d4⟩, -⟩ := cells5 Kd
        obtain ⟨⟨e0, e1, e2, e3, e4⟩, -⟩ := cells5 Ke
        have Mr := Lr
        rw [HV.out] at Mr
        obtain ⟨⟨m0, m1, m2, m3, m4⟩, n0, n1, n2, n3, n4⟩ := cells5 Mr
        go_wp2_with fail
        rw [← HV.out, ← hW7]
        obtain ⟨z0, z1, z2, z3, z4⟩ := hb7
        dsimp only at z0 z1 z2 z3 z4
        refine bodyPost_ret (v := .tuple #[NC.val ⟨2, t.pos, 0, [45, 62], some ⟨W16.heap.size, 0, none⟩, 2, 2⟩, .bool true]) (by simp [results, Try.results78, go_sem, z0, z1, z2, z3, z4, NC.val, zN]) rfl ⟨⟨2, t.pos, 0, [45, 62], some ⟨W16.heap.size, 0, none⟩, 2, 2⟩, by rw [HQ.out]; rfl, by rw [HQ.out]; exact hA7, by rw [HQ.out]; exact hd7⟩
end Go.Proofs.Ytlammclbnihopaa.N7
namespace Go.Proofs.Ytlammclbnihopaa.N7
open Go.RowKit N5 N6

attribute [local go_sem] fld0 fld1
set_option maxRecDepth 100000 in
set_option maxHeartbeats 4000000 in
theorem whole_step {rd : Cu → Out Nd} {w : World} {B : Nat} {v : Value} {c : Cu} (h : CurAt w B v c) (hrd : c.enters = true → ∀ W, CurAt W B v c.enter → Calls Try.prog 78 #[rdr B] W (ReadTo B v (rd c.enter) W)) : Calls Try.prog 50 #[rdr B] w (ReadTo B v (deeper rd c) w) := by
  have HRD := Lib.hid hrd
  clear hrd
  unfold rdr
  obtain ⟨W1, hW1⟩ : ∃ W1, W1 = ((w.alloc (.cells #[.pointer (some ⟨B, 0, none⟩)] 69)).alloc (.cells #[.int .i64 0, .int .i64 0, .int .i64 0, .string ⟨#[]⟩, .slice none 0 0] 25)) := ⟨_, rfl⟩
  have hsz : W1.heap.size = w.heap.size + 1 + 1 := by rw [hW1]; simp
  have Kp : Blk W1 (w.heap.size) #[.pointer (some ⟨B, 0, none⟩)] 69 := by rw [hW1]; have h0 := Blk.new w #[.pointer (some ⟨B, 0, none⟩)] 69; (try simp only [World.size_alloc] at h0); exact (h0.later ((Below.refl _ _).alloc (Nat.le_refl _) _))
  have Kr : Blk W1 (w.heap.size + 1) #[.int .i64 0, .int .i64 0, .int .i64 0, .string ⟨#[]⟩, .slice none 0 0] 25 := by rw [hW1]; have h0 := Blk.new (w.alloc (.cells #[.pointer (some ⟨B, 0, none⟩)] 69)) #[.int .i64 0, .int .i64 0, .int .i64 0, .string ⟨#[]⟩, .slice none 0 0] 25; (try simp only [World.size_alloc] at h0); exact h0
  have hA1 : At7 B v c w W1 := by rw [hW1]; exact (At7.of h).alloc _ |>.alloc _
  have hlt := h.lt
  have HW1 := Lib.hid hW1
  clear hW1 h
  go_enter Try.func50, Try.ntmps50
  go_upto_region 1 with fail
  rw [← HW1.out]
  clear HW1
  have p0 := cells1 Kp
  obtain ⟨⟨r0, r1, r2, r3, r4⟩, rf0, rf1, rf2, rf3, rf4⟩ := cells5 Kr
  have HC := deeper_any (x := rdr B) (rd := rd) (enters_of Try.func78 (by kernel_rfl) rfl) hA1.cur (fun he W hA => HRD.out he W hA.cur)
  go_wp2_with fail
  refine HC.mono ?_; rintro e W2 ⟨d, rfl, hAc, hm⟩
  clear HC
  clear p0 r0 r1 r2 r3 r4 rf0 rf1 rf2 rf3 rf4
  have hA2 := hA1.trans hAc
  have Kp := Kp.kept hAc.grown (fun e => by injection e; omega)
  have Kr := Kr.kept hAc.grown (fun e => by injection e; omega)
  have hs3 := hAc.grown.size
  clear hA1 hAc
  obtain ⟨dk, dp, dn, dt, dq, dl, dc⟩ := d
  obtain ⟨W7, hW7, hb7, hA7, hn7⟩ := read_end hA2 (b := w.heap.size + 1) (by omega) (z := zN) Kr ⟨dk, dp, dn, dt, dq, dl, dc⟩
  dsimp only [zN] at hW7 hb7
  have hm7 := tree_pass (m := w.heap.size) hm hn7 (by omega) (by omega)
  clear hn7
  unfold NC.val
  have p0 := cells1 Kp
  obtain ⟨⟨r0, r1, r2, r3, r4⟩, rf0, rf1, rf2, rf3, rf4⟩ := cells5 Kr
  go_wp2_with fail
  rw [← hW7]
  obtain ⟨z0, z1, z2, z3, z4⟩ := hb7
  dsimp only at z0 z1 z2 z3 z4
  exact bodyPost_ret (v := .tuple #[NC.val ⟨dk, dp, dn, dt, dq, dl, dc⟩, .bool (deeper rd c).2.isSome]) (by simp [results, Try.results50, go_sem, z0, z1, z2, z3, z4, NC.val, zN]) rfl ⟨_, rfl, hA7, hm7⟩
theorem whole_any {B : Nat} {v : Value} : ∀ (n : Nat) (c : Cu) (W : World), 200 ≤ c.nest + n → CurAt W B v c → Calls Try.prog 50 #[rdr B] W (ReadTo B v (wholeP n c) W)
  | 0, c, W, hk, h => by
    have hne : ¬ c.enters = true := fun q => by have := (enters_iff.1 q).2; omega
    have := whole_step (rd := fun c => (c, none)) h (fun he => absurd he hne)
    unfold deeper at this
    rw [if_neg hne] at this
    exact this
  | n + 1, c, W, hk, h => whole_step (rd := arrowP (wholeP n)) h fun he W hc => arrow_any hc (pair_whole n) (fun c W hk h => whole_any n c W hk h) (by rw [enter_of he]; show 200 ≤ c.nest + 1 + n; omega)
theorem kind_l {w : World} {B : Nat} {v : Value} {c : Cu} (h : CurAt w B v c) (k : Int) : Calls Try.prog 97 #[.pointer (some ⟨B, 0, none⟩), .int .i64 k] w (CurTo B v (c.kind k) (.tuple #[.agg #[.int .i64 (c.kindT k).kind, .int .i64 (c.kindT k).pos, .int .i64 (c.kindT k).num, .string ⟨(c.kindT k).text.toArray⟩], .bool (c.kindOk k)]) w) := kind_any h k
set_option maxRecDepth 100000 in
set_option maxHeartbeats 4000000 in
theorem pred_any {wh : Cu → Out Nd} {wr : Cu → Cu × Nd} {k : Nat} {w : World} {B : Nat} {v : Value} {c : Cu} (h : CurAt w B v c) (HP : Pair k wh wr) (hwh : ∀ (c : Cu) (W : World), 200 ≤ c.nest + k → CurAt W B v c → Calls Try.prog 50 #[rdr B] W (ReadTo B v (wh c) W)) (hk : 200 ≤ c.nest + (k + 1)) : Calls Try.prog 99 #[rdr B] w (ReadTo B v (predP wh c) w) := by
  have HWH := Lib.hid hwh
  have HK := Lib.hid hk
  clear hwh hk
  unfold rdr
  obtain ⟨W1, hW1⟩ : ∃ W1, W1 = ((w.alloc (.cells #[.pointer (some ⟨B, 0, none⟩)] 69)).alloc (.cells #[.int .i64 0, .int .i64 0, .int .i64 0, .string ⟨#[]⟩, .slice none 0 0] 25)) := ⟨_, rfl⟩
  have hsz : W1.heap.size = w.heap.size + 1 + 1 := by rw [hW1]; simp
  have Kp : Blk W1 (w.heap.size) #[.pointer (some ⟨B, 0, none⟩)] 69 := by rw [hW1]; have h0 := Blk.new w #[.pointer (some ⟨B, 0, none⟩)] 69; (try simp only [World.size_alloc] at h0); exact (h0.later ((Below.refl _ _).alloc (Nat.le_refl _) _))
  have Kr : Blk W1 (w.heap.size + 1) #[.int .i64 0, .int .i64 0, .int .i64 0, .string ⟨#[]⟩, .slice none 0 0] 25 := by rw [hW1]; have h0 := Blk.new (w.alloc (.cells #[.pointer (some ⟨B, 0, none⟩)] 69)) #[.int .i64 0, .int .i64 0, .int .i64 0, .string ⟨#[]⟩, .slice none 0 0] 25; (try simp only [World.size_alloc] at h0); exact h0
  have hA1 : At7 B v c w W1 := by rw [hW1]; exact (At7.of h).alloc _ |>.alloc _
  have hlt := h.lt
  have HW1 := Lib.hid hW1
  clear hW1 h
  go_enter Try.func99, Try.ntmps99
  go_upto_region 1 with fail
  rw [← HW1.out]
  clear HW1
  have p0 := cells1 Kp
  obtain ⟨⟨r0, r1, r2, r3, r4⟩, rf0, rf1, rf2, rf3, rf4⟩ := cells5 Kr
  obtain ⟨⟨tk, tp, tn, tt⟩, hT⟩ : ∃ t, t = c.kindT 2 := ⟨_, rfl⟩
  have HT := Lib.hid hT
  clear hT
  have HC := kind_l hA1.cur 2
  rw [← HT.out] at HC
  go_wp2_with fail
  refine HC.mono ?_; rintro e W2 ⟨rfl, hc, hg⟩
  clear HC
  clear p0 r0 r1 r2 r3 r4 rf0 rf1 rf2 rf3 rf4
  have hA2 := hA1.to hc hg
  have Kp := Kp.kept hg (fun e => by injection e; omega)
  have Kr := Kr.kept hg (fun e => by injection e; omega)
  have hs3 := hg.size
  clear hA1 hc hg
  go_upto_region 2 with fail
  obtain ⟨W4, hW4⟩ : ∃ x, x = W2.alloc (.cells #[.int .i64 tk, .int .i64 tp, .int .i64 tn, .string ⟨tt.toArray⟩] 37) := ⟨_, rfl⟩
  rw [← hW4]
  have hB : Below W2.heap.size W2 W4 := by rw [hW4]; exact (Below.refl _ _).alloc (Nat.le_refl _) _
  have Kt : Blk W4 W2.heap.size #[.int .i64 tk, .int .i64 tp, .int .i64 tn, .string ⟨tt.toArray⟩] 37 := by rw [hW4]; exact Blk.new W2 _ _
  have hz4 : W2.heap.size + 1 ≤ W4.heap.size := by rw [hW4]; simp
  clear hW4
  have hA4 := hA2.below hB
  have Kp := Kp.kept (grownBy_below hB (some B)) (fun e => by injection e; omega)
  have Kr := Kr.kept (grownBy_below hB (some B)) (fun e => by injection e; omega)
  have hs5 := (grownBy_below hB (some B)).size
  clear hA2 hB
  cases hi : c.kindOk 2 with
  | false =>
    have HQ : Hid (predP wh c = (c.kind 2, none)) := by show _ = _; unfold predP; rw [hi]; rfl
    obtain ⟨W7, hW7, hb7, hA7, hn7⟩ := read_end hA4 (b := w.heap.size + 1) (by omega) (z := zN) Kr zN
    dsimp only [zN] at hW7 hb7
    clear hn7
    have p0 := cells1 Kp
    obtain ⟨⟨r0, r1, r2, r3, r4⟩, rf0, rf1, rf2, rf3, rf4⟩ := cells5 Kr
    obtain ⟨t0, t1, t2, t3⟩ := cells4 Kt
    go_wp2_with fail
    rw [← hW7]
    obtain ⟨z0, z1, z2, z3, z4⟩ := hb7
    dsimp only at z0 z1 z2 z3 z4
    refine bodyPost_ret (v := .tuple #[NC.val zN, .bool false]) (by simp [results, Try.results99, go_sem, z0, z1, z2, z3, z4, NC.val, zN]) rfl ⟨zN, by rw [HQ.out]; rfl, by rw [HQ.out]; exact hA7, by rw [HQ.out]⟩
  | true =>
    have H0 : Hid ((c.kind 2).nest = c.nest) := (fine_kind c 2).nest (kind_ok.1 hi)
    have p0 := cells1 Kp
    obtain ⟨⟨r0, r1, r2, r3, r4⟩, rf0, rf1, rf2, rf3, rf4⟩ := cells5 Kr
    obtain ⟨t0, t1, t2, t3⟩ := cells4 Kt
    have HC := atom_any hA4.cur HWH.out (by rw [H0.out]; exact HK.out)
    go_wp2_with fail
    refine HC.mono ?_; rintro e W6 ⟨d, rfl, hAc, hm⟩
    clear HC
    clear p0 r0 r1 r2 r3 r4 rf0 rf1 rf2 rf3 rf4 t0 t1 t2 t3
    have hA6 := hA4.trans hAc
    have Kp := Kp.kept hAc.grown (fun e => by injection e; omega)
    have Kr := Kr.kept hAc.grown (fun e => by injection e; omega)
    have Kt := Kt.kept hAc.grown (fun e => by injection e; omega)
    have hs7 := hAc.grown.size
    clear hA4 hAc
    obtain ⟨dk, dp, dn, dt, dq, dl, dc⟩ := d
    cases ho : (atomP wh (c.kind 2)).2 with
    | none =>
      have HQ : Hid (predP wh c = ((atomP wh (c.kind 2)).1, none)) := by show _ = _; unfold predP; rw [if_pos hi, out_eq ho]
      rw [ho] at hm
      unfold NC.val
      simp only [Option.isSome_none]
      have hm : NC.mk dk dp dn dt dq dl dc = NC.mk 0 0 0 [] none 0 0 := hm
      injection hm with q1 q2 q3 q4 q5 q6 q7
      subst q1 q2 q3 q4 q5 q6 q7
      have p0 := cells1 Kp
      obtain ⟨⟨r0, r1, r2, r3, r4⟩, rf0, rf1, rf2, rf3, rf4⟩ := cells5 Kr
      obtain ⟨t0, t1, t2, t3⟩ := cells4 Kt
      go_upto_region 5 with fail
      obtain ⟨W8, hW8⟩ : ∃ x, x = W6.alloc (.cells #[.int .i64 0, .int .i64 0, .int .i64 0, .string ⟨#[]⟩, .slice none 0 0] 25) := ⟨_, rfl⟩
      rw [← hW8]
      have hB : Below W6.heap.size W6 W8 := by rw [hW8]; exact (Below.refl _ _).alloc (Nat.le_refl _) _
      have Kd : Blk W8 W6.heap.size #[.int .i64 0, .int .i64 0, .int .i64 0, .string ⟨#[]⟩, .slice none 0 0] 25 := by rw [hW8]; exact Blk.new W6 _ _
      have hz8 : W6.heap.size + 1 ≤ W8.heap.size := by rw [hW8]; simp
      clear hW8
      clear p0 r0 r1 r2 r3 r4 rf0 rf1 rf2 rf3 rf4 t0 t1 t2 t3
      have hA8 := hA6.below hB
      have Kp := Kp.kept (grownBy_below hB (some B)) (fun e => by injection e; omega)
      have Kr := Kr.kept (grownBy_below hB (some B)) (fun e => by injection e; omega)
      have Kt := Kt.kept (grownBy_below hB (some B)) (fun e => by injection e; omega)
      have hs9 := (grownBy_below hB (some B)).size
      clear hA6 hB
      obtain ⟨W7, hW7, hb7, hA7, hn7⟩ := read_end hA8 (b := w.heap.size + 1) (by omega) (z := zN) Kr zN
      dsimp only [zN] at hW7 hb7
      clear hn7
      have p0 := cells1 Kp
      obtain ⟨⟨r0, r1, r2, r3, r4⟩, rf0, rf1, rf2, rf3, rf4⟩ := cells5 Kr
      obtain ⟨t0, t1, t2, t3⟩ := cells4 Kt
      obtain ⟨⟨d0, d1, d2, d3, d4⟩, -⟩ := cells5 Kd
      go_wp2_with fail
      rw [← hW7]
      obtain ⟨z0, z1, z2, z3, z4⟩ := hb7
      dsimp only at z0 z1 z2 z3 z4
      refine bodyPost_ret (v := .tuple #[NC.val zN, .bool false]) (by simp [results, Try.results99, go_sem, z0, z1, z2, z3, z4, NC.val, zN]) rfl ⟨zN, by rw [HQ.out]; rfl, by rw [HQ.out]; exact hA7, by rw [HQ.out]⟩
    | some t =>
      have HQ : Hid (predP wh c = ((atomP wh (c.kind 2)).1, some (.mk 3 tp 0 tt [t]))) := by show _ = _; unfold predP; rw [if_pos hi, out_eq ho, ← HT.out]
      rw [ho] at hm
      have Td : NodeAt _ _ _ t := hm
      clear hm
      unfold NC.val
      simp only [Option.isSome_some]
      have p0 := cells1 Kp
      obtain ⟨⟨r0, r1, r2, r3, r4⟩, rf0, rf1, rf2, rf3, rf4⟩ := cells5 Kr
      obtain ⟨t0, t1, t2, t3⟩ := cells4 Kt
      go_upto_region 5 with fail
      obtain ⟨W10, hW10⟩ : ∃ x, x = W6.alloc (.cells #[.int .i64 dk, .int .i64 dp, .int .i64 dn, .string ⟨dt.toArray⟩, .slice dq dl dc] 25) := ⟨_, rfl⟩
      rw [← hW10]
      have hB : Below W6.heap.size W6 W10 := by rw [hW10]; exact (Below.refl _ _).alloc (Nat.le_refl _) _
      have Kd : Blk W10 W6.heap.size #[.int .i64 dk, .int .i64 dp, .int .i64 dn, .string ⟨dt.toArray⟩, .slice dq dl dc] 25 := by rw [hW10]; exact Blk.new W6 _ _
      have hz10 : W6.heap.size + 1 ≤ W10.heap.size := by rw [hW10]; simp
      clear hW10
      clear p0 r0 r1 r2 r3 r4 rf0 rf1 rf2 rf3 rf4 t0 t1 t2 t3
      have hA10 := hA6.below hB
      have Kp := Kp.kept (grownBy_below hB (some B)) (fun e => by injection e; omega)
      have Kr := Kr.kept (grownBy_below hB (some B)) (fun e => by injection e; omega)
      have Kt := Kt.kept (grownBy_below hB (some B)) (fun e => by injection e; omega)
      have Td := Td.keeps (w' := W10) ⟨(grownBy_below hB (some B)).size, fun k hk hkl => (grownBy_below hB (some B)).block k hkl (fun e => by injection e; omega)⟩
      have hs11 := (grownBy_below hB (some B)).size
      clear hA6 hB
      have p0 := cells1 Kp
      obtain ⟨⟨r0, r1, r2, r3, r4⟩, rf0, rf1, rf2, rf3, rf4⟩ := cells5 Kr
      obtain ⟨t0, t1, t2, t3⟩ := cells4 Kt
      obtain ⟨⟨d0, d1, d2, d3, d4⟩, -⟩ := cells5 Kd
      clear p0 r0 r1 r2 r3 r4 rf0 rf1 rf2 rf3 rf4 t0 t1 t2 t3 d0 d1 d2 d3 d4
      obtain ⟨W12, hV12⟩ : ∃ x, x = W10.alloc (.cells #[.int .i64 dk, .int .i64 dp, .int .i64 dn, .string ⟨dt.toArray⟩, .slice dq dl dc] 25) := ⟨_, rfl⟩
      have HV := Lib.hid hV12
      have hB : Below W10.heap.size W10 W12 := by rw [hV12]; exact (Below.refl _ _).alloc (Nat.le_refl _) _
      have KL : Blk W12 W10.heap.size #[.int .i64 dk, .int .i64 dp, .int .i64 dn, .string ⟨dt.toArray⟩, .slice dq dl dc] 25 := by rw [hV12]; exact Blk.new W10 _ _
      have hz12 : W10.heap.size + 1 ≤ W12.heap.size := by rw [hV12]; simp
      clear hV12
      have hA13 := hA10.below hB
      have Lp := Kp.kept (grownBy_below hB (some B)) (fun e => by injection e; omega)
      have Lr := Kr.kept (grownBy_below hB (some B)) (fun e => by injection e; omega)
      have Lt := Kt.kept (grownBy_below hB (some B)) (fun e => by injection e; omega)
      have Ld := Kd.kept (grownBy_below hB (some B)) (fun e => by injection e; omega)
      have Td := (Td.mono (S' := fun k => w.heap.size + 1 + 1 ≤ k ∧ k ≠ W10.heap.size) fun k hk hl => ⟨by omega, by omega⟩).keeps (w' := W12) ⟨hB.size, fun k hk hkl => hB.block k hkl⟩
      have hs14 := hB.size
      have hT := (OwnRows.one (n := w.heap.size + 1 + 1) (d := ⟨dk, dp, dn, dt, dq, dl, dc⟩) KL (by omega) Td).node 3 tp 0 tt
      obtain ⟨W7, hW7, hb7, hA7, hn7⟩ := read_end hA13 (b := w.heap.size + 1) (by omega) (z := zN) Lr ⟨3, tp, 0, tt, some ⟨W10.heap.size, 0, none⟩, 1, 1⟩
      dsimp only [zN] at hW7 hb7
      have hd7 := (hn7 _ _ _ hT (by omega)).mono (S' := fun b => w.heap.size ≤ b) fun k hk _ => by omega
      have p0 := cells1 Kp
      obtain ⟨⟨r0, r1, r2, r3, r4⟩, rf0, rf1, rf2, rf3, rf4⟩ := cells5 Kr
      obtain ⟨t0, t1, t2, t3⟩ := cells4 Kt
      obtain ⟨⟨d0, d1, d2, d3, d4⟩, -⟩ := cells5 Kd
      have Mr := Lr
      rw [HV.out] at Mr
      obtain ⟨⟨m0, m1, m2, m3, m4⟩, n0, n1, n2, n3, n4⟩ := cells5 Mr
      go_wp2_with fail
      rw [← HV.out, ← hW7]
      obtain ⟨z0, z1, z2, z3, z4⟩ := hb7
      dsimp only at z0 z1 z2 z3 z4
      refine bodyPost_ret (v := .tuple #[NC.val ⟨3, tp, 0, tt, some ⟨W10.heap.size, 0, none⟩, 1, 1⟩, .bool true]) (by simp [results, Try.results99, go_sem, z0, z1, z2, z3, z4, NC.val, zN]) rfl ⟨⟨3, tp, 0, tt, some ⟨W10.heap.size, 0, none⟩, 1, 1⟩, by rw [HQ.out]; rfl, by rw [HQ.out]; exact hA7, by rw [HQ.out]; exact hd7⟩
end Go.Proofs.Ytlammclbnihopaa.N7
