/- The contract of a cursor's Ahead. -/
import Derived.Test.YtehcccjgepbnjaaCurOps3
namespace Go.Proofs.Ytehcccjgepbnjaa
open Go.RowKit
attribute [local go_sem] fld0 fld1

/-- does a word stand ahead at this depth? -/
def aheadF (x : List UInt8) : Nat → List Tk → Bool
  | _, [] => false
  | d, t :: r =>
    if isOne t [[40], [123]] = true then aheadF x (d + 1) r
    else if isOne t [[41], [125]] = true then (if d = 0 then false else aheadF x (d - 1) r)
    else if 0 < d then aheadF x d r
    else if isOne t [[59]] = true then false
    else if isOne t [x] = true then true
    else aheadF x d r
def Cu.ahead (c : Cu) (x : List UInt8) : Bool := decide (c.err = 0) && aheadF x 0 (c.ws.drop c.at')
theorem tx_two {w : World} (a b : ByteArray) : TxAt (w.alloc (.cells #[.string a, .string b] 9)) w.heap.size [a.data.toList, b.data.toList] := fun j hj => by
  rw [World.cell?_alloc_at _ _ _ _ rfl]
  match j, hj with
  | 0, _ => rfl
  | 1, _ => rfl
theorem isOne_two (t : Tk) (a b : ByteArray) (w : World) (n : Nat) (hn : n = w.heap.size) : Calls Try.prog 37 #[t.val, .slice (some ⟨n, 0, none⟩) 2 2] (w.alloc (.cells #[.string a, .string b] 9)) (RunsTo (isOne t [a.data.toList, b.data.toList]) (w.alloc (.cells #[.string a, .string b] 9))) := by
  subst hn
  exact isOneOf_any t w.heap.size 2 2 _ _ rfl (by decide) (by simp) (tx_two a b)
theorem isOne_one (t : Tk) (a : ByteArray) (w : World) (n : Nat) (hn : n = w.heap.size) : Calls Try.prog 37 #[t.val, .slice (some ⟨n, 0, none⟩) 1 1] (w.alloc (.cells #[.string a] 9)) (RunsTo (isOne t [a.data.toList]) (w.alloc (.cells #[.string a] 9))) := by
  subst hn
  exact isOneOf_any t w.heap.size 1 1 _ _ rfl (by decide) (by simp) (tx_one (cell_new1 _ _ _))

set_option maxHeartbeats 4000000 in
theorem ahead_any {w : World} {B : Nat} {v : Value} {c : Cu} (h : CurAt w B v c) (y : ByteArray) : Calls Try.prog 21 #[.pointer (some ⟨B, 0, none⟩), .string y] w (RunsTo (c.ahead y.data.toList) w) := by
  have hlt := h.lt
  have HF := failed_any h
  by_cases he : c.err = 0
  · have hb : (c.err != 0) = false := by rw [he]; rfl
    rw [hb] at HF
    have hR : Hid (c.ahead y.data.toList = aheadF y.data.toList 0 (c.ws.drop c.at')) := by show _ = _; unfold Cu.ahead; simp [he]
    have hle := h.le
    have hfew := h.few
    obtain ⟨⟨c0, -, -, -, -, c5, -, -, -⟩, -⟩ := h.all
    obtain ⟨a, cap, rfl, hcap, hrow⟩ := h.row
    obtain ⟨n, hn⟩ : ∃ n, n = c.ws.length := ⟨_, rfl⟩
    have HN : Hid (n = c.ws.length) := hn
    rw [← hn] at c0 hle hfew hcap
    obtain ⟨k0, hk0⟩ : ∃ k0, k0 = c.at' := ⟨_, rfl⟩
    rw [← hk0] at c5 hle hR
    clear he hb hn
    clear hk0
    by_cases hkn : k0 = n
    · subst hkn
      have hR : Hid (c.ahead y.data.toList = false) := by
        show _ = _
        rw [hR.out, List.drop_of_length_le (by rw [HN.out]; exact Nat.le_refl _)]; rfl
      clear hrow
      rcases Nat.decEq cap k0 with hck | hck
      all_goals (
        go_enter Try.func21, Try.ntmps21
        go_wp2_with fail
        refine HF.mono ?_; rintro e w1 ⟨rfl, rfl⟩
        go_wp2_with fail
        go_quiet (fail)
        go_wp2_with fail
        refine wp_loop_rounds 1 ?_
        rw [rounds_succ]
        go_wp2
        try rw [Exit.noGoto_ret]
        go_ret
        rw [hR.out]
        exact ⟨rfl, below_drewN (Below.refl _ _) _⟩)
    · have hlt0 : k0 < n := by omega
      have hck : ¬ cap = k0 := by omega
      obtain ⟨g, o, rfl, hg, hgB, hc⟩ : ∃ g o, a = some ⟨g, o, none⟩ ∧ g < w.heap.size ∧ g ≠ B ∧ ∀ (j : Nat) (hj : j < c.ws.length), TkAt w g o j c.ws[j] := by
        rcases hrow with h0 | h0
        · rw [h0] at HN; have := HN.out; simp at this; omega
        · exact h0
      have HC : Hid (∀ (j : Nat) (hj : j < c.ws.length), TkAt w g o j c.ws[j]) := hc
      clear hc hrow hkn
      go_enter Try.func21, Try.ntmps21
      go_wp2_with fail
      refine HF.mono ?_; rintro e w1 ⟨rfl, rfl⟩
      go_wp2_with fail
      go_quiet (fail)
      go_wp2_with fail
      generalize hm : n - k0 = m
      have hm9 : m ≤ 1000 := by omega
      have hB0 := below_drewN (Below.refl w.heap.size w) nq
      generalize w.drewN nq = w0 at *
      clear c0 c5 HF
      go_loopw [5, 20] (fun d i wr => ∃ k q : Nat, k ≤ m ∧ i = .int .i64 (k : Int) ∧ d = .int .i64 (q : Int) ∧ q ≤ k ∧ Hid (aheadF y.data.toList q (c.ws.drop (k0 + k)) = c.ahead y.data.toList) ∧ Below w.heap.size w wr) (fun _ i _ => m - (intOf i).toNat)
      case atStart => exact ⟨0, 0, Nat.zero_le _, rfl, rfl, Nat.le_refl _, hR.out.symm, hB0⟩
      case round =>
        obtain ⟨k, q, hk, rfl, rfl, hq, HK, hB⟩ := hrel
        clear hR hB0
        by_cases hkm : k < m
        · have hkm' : (k : Int) < m := by omega
          have hkX : k0 + k < c.ws.length := by rw [← HN.out]; omega
          have hK := HK.out
          rw [List.drop_eq_getElem_cons hkX] at hK
          obtain ⟨a0, a1, a2, a3⟩ := (HC.out (k0 + k) hkX).kept (grownBy_below hB none) (by simp)
          have e4 : o + (k0 + k) * 4 = o + k0 * 4 + k * 4 := by omega
          rw [e4] at a0 a1 a2 a3
          generalize c.ws[k0 + k] = t at *
          have hv : t.val = .agg #[.int .i64 t.kind, .int .i64 t.pos, .int .i64 t.num, .string ⟨t.text.toArray⟩] := rfl
          have P1 := fun (w2 : World) n hn => isOne_two t ⟨#[40]⟩ ⟨#[123]⟩ w2 n hn
          have P2 := fun (w2 : World) n hn => isOne_two t ⟨#[41]⟩ ⟨#[125]⟩ w2 n hn
          have P3 := fun (w2 : World) n hn => isOne_one t ⟨#[59]⟩ w2 n hn
          have P4 := fun (w2 : World) n hn => isOne_one t y w2 n hn
          rw [hv] at P1 P2 P3 P4
          have P1 := fun w2 n hn => (P1 w2 n hn).mono (R' := RunsTo (isOne t [[40], [123]]) _) (fun _ _ h => h)
          have P2 := fun w2 n hn => (P2 w2 n hn).mono (R' := RunsTo (isOne t [[41], [125]]) _) (fun _ _ h => h)
          have P3 := fun w2 n hn => (P3 w2 n hn).mono (R' := RunsTo (isOne t [[59]]) _) (fun _ _ h => h)
          rw [aheadF] at hK
          have HB1 : ∀ w9, Below (wr.alloc (.cells #[.int .i64 t.kind, .int .i64 t.pos, .int .i64 t.num, .string ⟨t.text.toArray⟩] 29)).heap.size (wr.alloc (.cells #[.int .i64 t.kind, .int .i64 t.pos, .int .i64 t.num, .string ⟨t.text.toArray⟩] 29)) w9 → Below w.heap.size w w9 := fun w9 h9 => (hB.alloc hB.size _).trans (h9.mono (hB.alloc hB.size _).size)
          have HB0 := Below.refl (wr.alloc (.cells #[.int .i64 t.kind, .int .i64 t.pos, .int .i64 t.num, .string ⟨t.text.toArray⟩] 29)).heap.size (wr.alloc (.cells #[.int .i64 t.kind, .int .i64 t.pos, .int .i64 t.num, .string ⟨t.text.toArray⟩] 29))
          have nextR : ∀ q', aheadF y.data.toList q' (c.ws.drop (k0 + k + 1)) = c.ahead y.data.toList → Hid (aheadF y.data.toList q' (c.ws.drop (k0 + (k + 1))) = c.ahead y.data.toList) := fun q' h => h
          cases b1 : isOne t [[40], [123]] with
          | true =>
            rw [if_pos b1] at hK
            have HX := nextR _ hK
            rw [b1] at P1
            clear hK nextR P2 P3 P4 hv b1
            go_wp2_with fail
            refine (P1 (wr.alloc (.cells #[.int .i64 t.kind, .int .i64 t.pos, .int .i64 t.num, .string ⟨t.text.toArray⟩] 29)) (wr.heap.size + 1) (by simp)).mono ?_; rintro e w2 ⟨rfl, hB2⟩
            have hB2 := (HB0.alloc (Nat.le_refl _) _).trans (hB2.mono (HB0.alloc (Nat.le_refl _) _).size)
            go_wp2_with fail
            go_roundw
            case rel => exact ⟨k + 1, q + 1, by omega, by go_num, by go_num, by omega, HX, HB1 _ hB2⟩
            case measure => simp [intOf]; omega
          | false =>
            rw [if_neg (by rw [b1]; simp)] at hK
            rw [b1] at P1
            cases b2 : isOne t [[41], [125]] with
            | true =>
              rw [if_pos b2] at hK
              rw [b2] at P2
              by_cases hq0 : q = 0
              · subst hq0
                have HX : Hid (false = c.ahead y.data.toList) := hK
                clear hK nextR P3 P4 hv b1 b2
                go_wp2_with fail
                refine (P1 (wr.alloc (.cells #[.int .i64 t.kind, .int .i64 t.pos, .int .i64 t.num, .string ⟨t.text.toArray⟩] 29)) (wr.heap.size + 1) (by simp)).mono ?_; rintro e w2 ⟨rfl, hB2⟩
                have hB2 := (HB0.alloc (Nat.le_refl _) _).trans (hB2.mono (HB0.alloc (Nat.le_refl _) _).size)
                obtain ⟨d0, d1, d2, d3, -, -, -, -⟩ := below_one hB2
                go_wp2_with fail
                refine (P2 w2 w2.heap.size rfl).mono ?_; rintro e w3 ⟨rfl, hB3⟩
                have hB3 := (hB2.alloc hB2.size _).trans (hB3.mono (hB2.alloc hB2.size _).size)
                go_wp2_with fail
                try rw [Exit.noGoto_ret]
                go_ret
                rw [← HX.out]
                exact ⟨rfl, HB1 _ hB3⟩
              · have hq1 : 0 < q := by omega
                rw [if_neg hq0] at hK
                have HX := nextR _ hK
                clear hK nextR P3 P4 hv b1 b2 hq0
                go_wp2_with fail
                refine (P1 (wr.alloc (.cells #[.int .i64 t.kind, .int .i64 t.pos, .int .i64 t.num, .string ⟨t.text.toArray⟩] 29)) (wr.heap.size + 1) (by simp)).mono ?_; rintro e w2 ⟨rfl, hB2⟩
                have hB2 := (HB0.alloc (Nat.le_refl _) _).trans (hB2.mono (HB0.alloc (Nat.le_refl _) _).size)
                obtain ⟨d0, d1, d2, d3, -, -, -, -⟩ := below_one hB2
                go_wp2_with fail
                refine (P2 w2 w2.heap.size rfl).mono ?_; rintro e w3 ⟨rfl, hB3⟩
                have hB3 := (hB2.alloc hB2.size _).trans (hB3.mono (hB2.alloc hB2.size _).size)
                go_wp2_with fail
                go_roundw
                case rel => exact ⟨k + 1, q - 1, by omega, by go_num, by congr 1; omega, by omega, HX, HB1 _ hB3⟩
                case measure => simp [intOf]; omega
            | false =>
              rw [if_neg (by rw [b2]; simp)] at hK
              rw [b2] at P2
              by_cases hq0 : 0 < q
              · rw [if_pos hq0] at hK
                have HX := nextR _ hK
                clear hK nextR P3 P4 hv b1 b2
                go_wp2_with fail
                refine (P1 (wr.alloc (.cells #[.int .i64 t.kind, .int .i64 t.pos, .int .i64 t.num, .string ⟨t.text.toArray⟩] 29)) (wr.heap.size + 1) (by simp)).mono ?_; rintro e w2 ⟨rfl, hB2⟩
                have hB2 := (HB0.alloc (Nat.le_refl _) _).trans (hB2.mono (HB0.alloc (Nat.le_refl _) _).size)
                obtain ⟨d0, d1, d2, d3, -, -, -, -⟩ := below_one hB2
                go_wp2_with fail
                refine (P2 w2 w2.heap.size rfl).mono ?_; rintro e w3 ⟨rfl, hB3⟩
                have hB3 := (hB2.alloc hB2.size _).trans (hB3.mono (hB2.alloc hB2.size _).size)
                go_wp2_with fail
                go_roundw
                case rel => exact ⟨k + 1, q, by omega, by go_num, rfl, by omega, HX, HB1 _ hB3⟩
                case measure => simp [intOf]; omega
              · rw [if_neg hq0] at hK
                obtain rfl : q = 0 := by omega
                cases b3 : isOne t [[59]] with
                | true =>
                rw [if_pos b3] at hK
                rw [b3] at P3
                have HX : Hid (false = c.ahead y.data.toList) := hK
                clear hK nextR P4 hv b1 b2 b3 hq0
                go_wp2_with fail
                refine (P1 (wr.alloc (.cells #[.int .i64 t.kind, .int .i64 t.pos, .int .i64 t.num, .string ⟨t.text.toArray⟩] 29)) (wr.heap.size + 1) (by simp)).mono ?_; rintro e w2 ⟨rfl, hB2⟩
                have hB2 := (HB0.alloc (Nat.le_refl _) _).trans (hB2.mono (HB0.alloc (Nat.le_refl _) _).size)
                obtain ⟨d0, d1, d2, d3, -, -, -, -⟩ := below_one hB2
                go_wp2_with fail
                refine (P2 w2 w2.heap.size rfl).mono ?_; rintro e w3 ⟨rfl, hB3⟩
                have hB3 := (hB2.alloc hB2.size _).trans (hB3.mono (hB2.alloc hB2.size _).size)
                obtain ⟨f0, f1, f2, f3, -, -, -, -⟩ := below_one hB3
                clear d0 d1 d2 d3
                go_wp2_with fail
                refine (P3 w3 w3.heap.size rfl).mono ?_; rintro e w4 ⟨rfl, hB4⟩
                have hB4 := (hB3.alloc hB3.size _).trans (hB4.mono (hB3.alloc hB3.size _).size)
                go_wp2_with fail
                try rw [Exit.noGoto_ret]
                go_ret
                rw [← HX.out]
                exact ⟨rfl, HB1 _ hB4⟩
                | false =>
                rw [if_neg (by rw [b3]; simp)] at hK
                rw [b3] at P3
                cases b4 : isOne t [y.data.toList] with
                | true =>
                rw [if_pos b4] at hK
                rw [b4] at P4
                have HX : Hid (true = c.ahead y.data.toList) := hK
                clear hK nextR hv b1 b2 b3 b4 hq0
                go_wp2_with fail
                refine (P1 (wr.alloc (.cells #[.int .i64 t.kind, .int .i64 t.pos, .int .i64 t.num, .string ⟨t.text.toArray⟩] 29)) (wr.heap.size + 1) (by simp)).mono ?_; rintro e w2 ⟨rfl, hB2⟩
                have hB2 := (HB0.alloc (Nat.le_refl _) _).trans (hB2.mono (HB0.alloc (Nat.le_refl _) _).size)
                obtain ⟨d0, d1, d2, d3, -, -, -, -⟩ := below_one hB2
                go_wp2_with fail
                refine (P2 w2 w2.heap.size rfl).mono ?_; rintro e w3 ⟨rfl, hB3⟩
                have hB3 := (hB2.alloc hB2.size _).trans (hB3.mono (hB2.alloc hB2.size _).size)
                obtain ⟨f0, f1, f2, f3, -, -, -, -⟩ := below_one hB3
                clear d0 d1 d2 d3
                go_wp2_with fail
                refine (P3 w3 w3.heap.size rfl).mono ?_; rintro e w4 ⟨rfl, hB4⟩
                have hB4 := (hB3.alloc hB3.size _).trans (hB4.mono (hB3.alloc hB3.size _).size)
                obtain ⟨d0, d1, d2, d3, -, -, -, -⟩ := below_one hB4
                clear f0 f1 f2 f3
                go_wp2_with fail
                refine (P4 w4 w4.heap.size rfl).mono ?_; rintro e w5 ⟨rfl, hB5⟩
                have hB5 := (hB4.alloc hB4.size _).trans (hB5.mono (hB4.alloc hB4.size _).size)
                go_wp2_with fail
                try rw [Exit.noGoto_ret]
                go_ret
                rw [← HX.out]
                exact ⟨rfl, HB1 _ hB5⟩
                | false =>
                rw [if_neg (by rw [b4]; simp)] at hK
                rw [b4] at P4
                have HX := nextR _ hK
                clear hK nextR hv b1 b2 b3 b4 hq0
                go_wp2_with fail
                refine (P1 (wr.alloc (.cells #[.int .i64 t.kind, .int .i64 t.pos, .int .i64 t.num, .string ⟨t.text.toArray⟩] 29)) (wr.heap.size + 1) (by simp)).mono ?_; rintro e w2 ⟨rfl, hB2⟩
                have hB2 := (HB0.alloc (Nat.le_refl _) _).trans (hB2.mono (HB0.alloc (Nat.le_refl _) _).size)
                obtain ⟨d0, d1, d2, d3, -, -, -, -⟩ := below_one hB2
                go_wp2_with fail
                refine (P2 w2 w2.heap.size rfl).mono ?_; rintro e w3 ⟨rfl, hB3⟩
                have hB3 := (hB2.alloc hB2.size _).trans (hB3.mono (hB2.alloc hB2.size _).size)
                obtain ⟨f0, f1, f2, f3, -, -, -, -⟩ := below_one hB3
                clear d0 d1 d2 d3
                go_wp2_with fail
                refine (P3 w3 w3.heap.size rfl).mono ?_; rintro e w4 ⟨rfl, hB4⟩
                have hB4 := (hB3.alloc hB3.size _).trans (hB4.mono (hB3.alloc hB3.size _).size)
                obtain ⟨d0, d1, d2, d3, -, -, -, -⟩ := below_one hB4
                clear f0 f1 f2 f3
                go_wp2_with fail
                refine (P4 w4 w4.heap.size rfl).mono ?_; rintro e w5 ⟨rfl, hB5⟩
                have hB5 := (hB4.alloc hB4.size _).trans (hB5.mono (hB4.alloc hB4.size _).size)
                go_wp2_with fail
                go_roundw
                case rel => exact ⟨k + 1, 0, by omega, by go_num, rfl, by omega, HX, HB1 _ hB5⟩
                case measure => simp [intOf]; omega
        · obtain rfl : k = m := by omega
          have hX := HK.out
          rw [List.drop_of_length_le (by rw [← HN.out]; omega)] at hX
          have HX : Hid (false = c.ahead y.data.toList) := hX
          clear hX
          go_wp2_with fail
          try rw [Exit.noGoto_ret]
          go_ret
          rw [← HX.out]
          exact ⟨rfl, hB⟩
  · have hb : (c.err != 0) = true := by rw [bne_iff_ne]; exact he
    rw [hb] at HF
    have hR : Hid (c.ahead y.data.toList = false) := by show _ = _; unfold Cu.ahead; simp [he]
    clear he hb
    go_enter Try.func21, Try.ntmps21
    go_wp2_with fail
    refine HF.mono ?_; rintro e w1 ⟨rfl, rfl⟩
    go_wp2
    go_ret
    rw [hR.out]
    exact ⟨rfl, Below.refl _ _⟩
end Go.Proofs.Ytehcccjgepbnjaa
