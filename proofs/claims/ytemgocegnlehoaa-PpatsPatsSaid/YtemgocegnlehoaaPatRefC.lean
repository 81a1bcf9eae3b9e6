/- Patterns, the document's readers: texts. -/
import Derived.Test.YtemgocegnlehoaaPatRefB
import Derived.Test.YtemgocegnlehoaaPatWhole
namespace Go.Proofs.Ytemgocegnlehoaa.N8
open Go.RowKit N5 N6 N7

attribute [local go_sem] fld0 fld1
def AtSpec (n m : Nat) : Prop := ∀ (c : Cu) (W : World) (x : Value), 200 ≤ c.nest + m ∨ c.err ≠ 0 → CuOk c → RefIs n W x c → n ≤ W.heap.size → Calls Try.prog 18 #[x] W (RefRead n (atR m c) W)
theorem refat_any (n : Nat) : ∀ m, AtSpec n m
  | 0 => fun c W x h hok hx hn => by
    have he : c.enter.err ≠ 0 := by
      by_cases he : c.enters = true
      · obtain ⟨h1, h2⟩ := enters_iff.1 he
        have := h.resolve_right fun q => q h1
        omega
      · exact (enter_not he).1
    have hb : ((rowR (atR 0) c.enter).1.leave, (rowR (atR 0) c.enter).2) = atR 0 c := by
      rw [rowR_stuck he]
      dsimp only
      rw [leave_stuck he]
      rfl
    rw [← hb]
    exact refat_body (k := 0) hx hn hok rfl (fun d W x hd hk hok hx hn => refatom_any hx hn hok (fine_at 0) (fun q => absurd q (hd he)) hk) (fine_atom 0) (fun c hk h => atom_at (pair_whole 0) c hk h) (.inr he)
  | m + 1 => fun c W x h hok hx hn => by
    have IH := refat_any n m
    exact refat_body (k := m) hx hn hok rfl (fun d W x hd hk hok hx hn => refatom_any hx hn hok (fine_at m) (fun _ c W x h1 h2 h3 h4 => IH c W x h1 h2 h3 h4) hk) (fine_atom m) (fun c hk h => atom_at (pair_whole m) c hk h)
      (by
        by_cases he : c.enters = true
        · have h1 := (enters_iff.1 he).1
          rw [enter_of he]
          exact .inl (by have := h.resolve_right fun q => q h1; show 200 ≤ c.nest + 1 + (m + 1); omega)
        · exact .inr (enter_not he).1)
set_option maxRecDepth 100000 in
set_option maxHeartbeats 4000000 in
theorem refread_pat {rd : Cu → Out Nd} {rr : Cu → Cu × Nd} (hrel : ∀ c, c.nest = 0 → Rel c (rd c) (rr c)) (hsz : ∀ c d t, rd c = (d, some t) → t.size ≤ d.at' + 1)
    (hrd : ∀ (n : Nat) (c : Cu) (W : World) (x : Value), c.nest = 0 → CuOk c → RefIs n W x c → n ≤ W.heap.size → Calls Try.prog 18 #[x] W (RefRead n (rr c) W)) (s : ByteArray) (hs : s.size ≤ 3000) (w : World) :
    Calls Try.prog 7 #[.string s] w (TreeTo (readL rd s) w) := by
  obtain ⟨W1, hW1⟩ : ∃ W1, W1 = w.alloc (.cells #[.int .i64 0, .int .i64 0, .int .i64 0, .string ⟨#[]⟩, .slice none 0 0] 25) := ⟨_, rfl⟩
  have hK : Blk W1 w.heap.size #[.int .i64 0, .int .i64 0, .int .i64 0, .string ⟨#[]⟩, .slice none 0 0] 25 := by rw [hW1]; exact Blk.new w _ _
  have hB1 : Below w.heap.size w W1 := by rw [hW1]; exact (Below.refl _ w).alloc (Nat.le_refl _) _
  have hs1 : w.heap.size + 1 ≤ W1.heap.size := by rw [hW1]; simp
  rw [← readR_eq hrel]
  have HRD := Lib.hid hrd
  have HREL := Lib.hid hrel
  have HSZ := Lib.hid hsz
  have HLX := N4.reflex_any s W1 (by omega)
  have HW1 := Lib.hid hW1
  clear hW1 hrd hrel hsz
  go_enter Try.func7, Try.ntmps7
  go_upto_region 1 with fail
  rw [← HW1.out]
  clear HW1
  cases hl : N4.lexAll s with
  | error kx =>
    obtain ⟨k, x⟩ := kx
    have HQ : Hid (readR rr s = (zNd, (k : Int), x)) := by show _ = _; unfold readR; rw [hl]
    have hx := lexAll_err hl
    have hx2 : ¬ (x = 0) := hx
    unfold N4.LexIs at HLX
    rw [hl] at HLX
    go_wp2_with fail
    refine HLX.mono ?_; rintro e W2 ⟨rfl, hB⟩
    have hK2 := hK.later hB
    have hB2 := hB1.trans (hB.mono (by omega))
    obtain ⟨⟨x0, x1, x2, x3, x4⟩, f0, f1, f2, f3, f4⟩ := cells5 hK2
    obtain ⟨W7, hW7, hb7, hB7, -⟩ := text_end hB2 (Nat.le_refl _) (z := zN) hK2 zN
    dsimp only [zN] at hW7 hb7
    clear HLX
    go_wp2_with fail
    rw [← hW7]
    obtain ⟨z0, z1, z2, z3, z4⟩ := hb7
    dsimp only at z0 z1 z2 z3 z4
    refine bodyPost_ret (v := .tuple #[zN.val, .int .i64 (k : Int), .int .i64 x]) (by simp [results, Try.results7, go_sem, z0, z1, z2, z3, z4, NC.val, zN]) rfl ⟨zN, by rw [HQ.out], by rw [HQ.out]; exact leaf_in _ _ _ _ _ _, hB7⟩
  | ok r =>
    obtain ⟨c0, hc0⟩ : ∃ c0, c0 = newCu (r ++ [N4.endTk s]) := ⟨_, rfl⟩
    have HQ : Hid (readR rr s = wholeO (rr c0).1 (rr c0).2) := by show _ = _; unfold readR; rw [hl, hc0]
    have hlen := lexAll_len hl
    have HO0 : Hid (CuOk c0) := by show CuOk _; rw [hc0]; exact ok_new _ (by simp; omega)
    have HN0 : Hid (c0.nest = 0) := by show _ = _; rw [hc0]; rfl
    unfold N4.LexIs at HLX
    rw [hl] at HLX
    go_wp2_with fail
    refine HLX.mono ?_; rintro e W2 ⟨vr, rfl, hrow, hB⟩
    have hAR : ArgRow W2 vr (r ++ [N4.endTk s]) := by
      have e1 : (r ++ [N4.endTk s]).length = r.length + 1 := by simp
      rw [← e1] at hrow
      exact arg_of hrow
    have HN := refnew_any W2.heap.size vr _ W2 (wrow_of hAR) (Nat.le_refl _) (by simp; omega)
    rw [← hc0] at HN
    have hK2 := hK.later hB
    have hB2 := hB1.trans (hB.mono (by omega))
    have hs2 := hB.size
    clear HLX hrow hAR hK hB1 hB hc0
    go_wp2_with fail
    refine HN.mono ?_; rintro e W3 ⟨x3, rfl, hx3, hB⟩
    have hK3 := hK2.later hB
    have hB3 := hB2.trans (hB.mono (by omega))
    have hs3 := hB.size
    have HC := HRD.out W2.heap.size c0 W3 x3 HN0.out HO0.out hx3 hs3
    clear HN hK2 hB2 hB hx3
    go_wp2_with fail
    refine HC.mono ?_; rintro e W4 ⟨x4, d, rfl, hx4, hd, hB⟩
    obtain ⟨c4, hc4⟩ : ∃ q, q = (rr c0).1 := ⟨_, rfl⟩
    obtain ⟨t4, ht4⟩ : ∃ q, q = (rr c0).2 := ⟨_, rfl⟩
    have HO4 : Hid (CuOk c4) := by show CuOk _; rw [hc4]; exact (HREL.out c0 HN0.out).fine.ok HO0.out
    have HS4 : Hid (c4.doneE = 0 → t4.size ≤ 1000000) := fun q => by
      have e := done_err q
      have k1 := (HREL.out c0 HN0.out).yes (by rw [← hc4]; exact e)
      have k2 := HSZ.out c0 (rd c0).1 t4 (by rw [ht4]; exact out_eq k1)
      rw [(HREL.out c0 HN0.out).cur, ← hc4] at k2
      have k3 := HO4.out.le
      have k4 := HO4.out.few
      omega
    rw [← hc4, ← ht4] at HQ
    rw [← hc4] at hx4
    rw [← ht4] at hd
    obtain ⟨a4, ln4, cap4, rfl, hr4, -⟩ := hx4.shape
    have Rq := hr4.out
    obtain ⟨dk, dp, dn, dt, dq, dl, dc⟩ := d
    unfold NC.val
    have hK4 := hK3.later hB
    have hB4 := hB3.trans (hB.mono (by omega))
    have hs4 := hB.size
    clear HC hK3 hB3 hB hx4 hr4 hc4 ht4
    go_upto_region 5 with fail
    obtain ⟨V, hV⟩ : ∃ x, x = (W4.alloc (.cells (refC (.slice a4 ln4 cap4) c4.ep (c4.nest : Int) c4.err c4.pos) 49)).alloc (.cells #[.int .i64 dk, .int .i64 dp, .int .i64 dn, .string ⟨dt.toArray⟩, .slice dq dl dc] 25) := ⟨_, rfl⟩
    rw [← hV]
    have hB : Below W4.heap.size W4 V := by rw [hV]; exact ((Below.refl _ _).alloc (Nat.le_refl _) _).alloc (by simp) _
    have KC0 : Blk V W4.heap.size (refC (.slice a4 ln4 cap4) c4.ep (c4.nest : Int) c4.err c4.pos) 49 := by rw [hV]; exact (Blk.new W4 _ _).later ((Below.refl _ _).alloc (Nat.le_refl _) _)
    have KN0 : Blk V (W4.heap.size + 1) #[.int .i64 dk, .int .i64 dp, .int .i64 dn, .string ⟨dt.toArray⟩, .slice dq dl dc] 25 := by rw [hV]; have h0 := Blk.new (W4.alloc (.cells (refC (.slice a4 ln4 cap4) c4.ep (c4.nest : Int) c4.err c4.pos) 49)) #[.int .i64 dk, .int .i64 dp, .int .i64 dn, .string ⟨dt.toArray⟩, .slice dq dl dc] 25; simp only [World.size_alloc] at h0; exact h0
    clear hV
    have hK5 := hK4.later hB
    have hB5 := hB4.trans (hB.mono (by omega))
    have hd5 := hd.later hB
    have hs5 := hB.size
    have HWH := refwhole_any (RefIs.mk (Rq.below (hB.mono (by omega)))) (Nat.le_trans (Nat.le_trans hs3 hs4) hs5) HO4.out hd5 HS4.out
    unfold NC.val at HWH
    obtain ⟨⟨p0, p1, p2, p3, p4, p5, p6, p7⟩, -⟩ := cells8 KC0
    obtain ⟨⟨m0, m1, m2, m3, m4⟩, -⟩ := cells5 KN0
    clear KC0 KN0 hK4 hB4 hd hB Rq
    go_wp2_with fail
    refine HWH.mono ?_; rintro e W6 ⟨d', rfl, hor, hB⟩
    have hK6 := hK5.later hB
    have hB6 := hB5.trans (hB.mono (by omega))
    have hd6 : NodeAt (fun b => w.heap.size + 1 ≤ b) W6 d' (wholeO c4 t4).1 := by
      rcases hor with ⟨h1, h2⟩ | ⟨h1, h2⟩
      · rw [h1, h2]; exact (hd5.later hB).mono fun k hk _ => by omega
      · rw [h1, h2]; exact leaf_in _ _ _ _ _ _
    obtain ⟨W7, hW7, hb7, hB7, hd7⟩ := pass_text hd6 hB6 hK6
    obtain ⟨⟨x0, x1, x2, x3, x4⟩, f0, f1, f2, f3, f4⟩ := cells5 hK6
    clear p0 p1 p2 p3 p4 p5 p6 p7 m0 m1 m2 m3 m4 HWH hK5 hB5 hd5 hor
    generalize hO : wholeO c4 t4 = o at *
    have HO := Lib.hid hO
    clear hO
    obtain ⟨ek, ep, en, et, eq, el, ec⟩ := d'
    dsimp only at hW7 hb7
    unfold NC.val
    go_wp2_with fail
    rw [← hW7]
    obtain ⟨z0, z1, z2, z3, z4⟩ := hb7
    dsimp only at z0 z1 z2 z3 z4
    exact bodyPost_ret (v := .tuple #[NC.val ⟨ek, ep, en, et, eq, el, ec⟩, .int .i64 o.2.1, .int .i64 o.2.2]) (by simp [results, Try.results7, go_sem, z0, z1, z2, z3, z4, NC.val]) rfl ⟨_, by rw [HQ.out], by rw [HQ.out]; exact hd7, hB7⟩
theorem refpat_any (s : ByteArray) (hs : s.size ≤ 3000) (w : World) : Calls Try.prog 7 #[.string s] w (TreeTo (patL s) w) :=
  refread_pat (fun c h => pair_whole 200 c (by omega)) (fun c d t h => by have := whole_sized 200 c d t h; omega) (fun n c W x h hok hx hn => refat_any n 200 c W x (.inl (by omega)) hok hx hn) s hs w
end Go.Proofs.Ytemgocegnlehoaa.N8
