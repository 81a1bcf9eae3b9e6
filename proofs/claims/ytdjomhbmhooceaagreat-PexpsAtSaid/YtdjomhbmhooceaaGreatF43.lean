import Derived.Test.YtdjomhbmhooceaaGreatF3
set_option maxHeartbeats 4000000
set_option maxRecDepth 100000
set_option linter.unusedVariables false
set_option linter.unusedSimpArgs false
namespace Go.Proofs.YtdjomhbmhooceaaGreat.N5
open Go.RowKit
attribute [local go_sem] xB xA
theorem jK (t : Tk) (a b : List UInt8) : isOne t [a, b] = (isOne t [a] || isOne t [b]) := by
 unfold isOne hasT;cases (decide (t.kind = 4) || decide (t.kind = 5)) <;> simp
theorem kT {n : Nat} {w : World} {x : Value} {c : Cu} (h : zF n w x c) (hn : n <= w.heap.size) (hok : yZ c) (y : ByteArray) : Calls Tryz.prog 93 #[x, .string y] w (RunsTo (c.ahead y.data.toList) w) := by
 obtain ⟨a, ln, cap, rfl, hr, hln⟩ := h.shape;have hfew := hok.few;clear h hok;have hBa : Below w.heap.size w (w.alloc (tG (.slice a ln cap) c)) := (Below.refl _ w).alloc (Nat.le_refl _) _;by_cases he : c.err = 0
 ·
  have hb : (c.err != 0) = false := by rw [he]; rfl
  have hR : Hid (uU y.data.toList 0 (c.ws.drop c.at') = c.ahead y.data.toList) := by show _ = _; unfold Cu.ahead; simp [he]
  have hl9 : ln <= 4000 := by have := hln.out; rw [List.length_drop] at this; omega
  have HC : Hid (c.ws.drop c.at' = [] \/ ∃ g o, a = some ⟨g, o, none⟩ /\ g < n /\ ∀ j (hj : j < (c.ws.drop c.at').length), tX w g o j (c.ws.drop c.at')[j]) := by
   obtain ⟨a', cap', h1, _, h2⟩ := hr.out;injection h1 with h1
   rw [h1]; exact h2
  generalize c.ws.drop c.at' = L at *;clear he hr;go_enter Tryz.func93, Tryz.ntmps93;go_wp2_with fail;go_loopw [5, 6] (fun d i wr => ∃ k q : Nat, k <= ln /\ i = .int .i64 (k : Int) /\ d = .int .i64 (q : Int) /\ q <= k /\ Hid (uU y.data.toList q (L.drop k) = c.ahead y.data.toList) /\ Below (w.alloc (tG (.slice a ln cap) c)).heap.size (w.alloc (tG (.slice a ln cap) c)) wr) (fun _ i _ => ln - (intOf i).toNat)
  case atStart => exact ⟨0, 0, Nat.zero_le _, rfl, rfl, Nat.le_refl _, hR, Below.refl _ _⟩
  case round =>
   obtain ⟨k, q, hk, rfl, rfl, hq, HK, hB⟩ := hrel;clear hR;obtain ⟨x0, -⟩ := eight hB (by simp);have hBw := zS hBa hB;by_cases hkm : k < ln
   ·
    have hkm' : (k : Int) < ln := by omega
    have hkX : k < L.length := by rw [<- hln.out]; exact hkm
    have hK := HK.out;rw [List.drop_eq_getElem_cons hkX] at hK;obtain ⟨g, o, rfl, hg, hc⟩ : ∃ g o, a = some ⟨g, o, none⟩ /\ g < n /\ ∀ j (hj : j < L.length), tX w g o j L[j] := by
     rcases HC.out with h0 | h0
     ·
      rw [h0] at hkX; simp at hkX
     ·
      exact h0
    obtain ⟨a0, a1, a2, a3⟩ := (hc k hkX).under (hBw.mono hn) hg;generalize L[k] = t at *;have hv : t.val = .agg #[.int .i64 t.kind, .int .i64 t.pos, .int .i64 t.num, .string ⟨t.text.toArray⟩] := rfl;have P1 := fun w2 : World => (vJ t ⟨#[40]⟩ w2).mono (R' := RunsTo (isOne t [[40]]) w2) (fun _ _ h => h)
    have P2 := fun w2 : World => (vJ t ⟨#[123]⟩ w2).mono (R' := RunsTo (isOne t [[123]]) w2) (fun _ _ h => h)
    have P3 := fun w2 : World => (vJ t ⟨#[41]⟩ w2).mono (R' := RunsTo (isOne t [[41]]) w2) (fun _ _ h => h)
    have P4 := fun w2 : World => (vJ t ⟨#[125]⟩ w2).mono (R' := RunsTo (isOne t [[125]]) w2) (fun _ _ h => h)
    have P5 := fun w2 : World => (vJ t ⟨#[59]⟩ w2).mono (R' := RunsTo (isOne t [[59]]) w2) (fun _ _ h => h)
    have P6 := fun w2 : World => vJ t y w2
    rw [hv] at P1 P2 P3 P4 P5 P6;rw [uU, jK, jK] at hK;have HB0 := Below.refl (wr.alloc (.cells #[.int .i64 t.kind, .int .i64 t.pos, .int .i64 t.num, .string ⟨t.text.toArray⟩] 38)).heap.size (wr.alloc (.cells #[.int .i64 t.kind, .int .i64 t.pos, .int .i64 t.num, .string ⟨t.text.toArray⟩] 38));have HB1 : ∀ w9, Below (wr.alloc (.cells #[.int .i64 t.kind, .int .i64 t.pos, .int .i64 t.num, .string ⟨t.text.toArray⟩] 38)).heap.size (wr.alloc (.cells #[.int .i64 t.kind, .int .i64 t.pos, .int .i64 t.num, .string ⟨t.text.toArray⟩] 38)) w9 -> Below (w.alloc (tG (.slice (some ⟨g, o, none⟩) ln cap) c)).heap.size (w.alloc (tG (.slice (some ⟨g, o, none⟩) ln cap) c)) w9 := fun w9 h9 => (hB.alloc hB.size _).trans (h9.mono (hB.alloc hB.size _).size)
    have HB2 : ∀ w9, Below (wr.alloc (.cells #[.int .i64 t.kind, .int .i64 t.pos, .int .i64 t.num, .string ⟨t.text.toArray⟩] 38)).heap.size (wr.alloc (.cells #[.int .i64 t.kind, .int .i64 t.pos, .int .i64 t.num, .string ⟨t.text.toArray⟩] 38)) w9 -> Below w.heap.size w w9 := fun w9 h9 => hBa.trans ((HB1 w9 h9).mono hBa.size)
    have nextR : ∀ q', uU y.data.toList q' (L.drop (k + 1)) = c.ahead y.data.toList -> Hid (uU y.data.toList q' (L.drop (k + 1)) = c.ahead y.data.toList) := fun q' h => h
    clear hv hc;cases b1 : isOne t [[40]] with
    | true =>
     rw [if_pos (by rw [b1]; rfl)] at hK;have HX := nextR _ hK;rw [b1] at P1;clear hK nextR;go_wp2_with fail;refine (P1 _).mono ?_; rintro e w2 ⟨rfl, hX⟩;have hB2 := HB0.trans (hX.mono (Nat.le_refl _));clear hX;go_wp2_with fail;go_roundw
     case rel => exact ⟨k + 1, q + 1, by omega, by go_num, by go_num, by omega, HX, HB1 _ hB2⟩
     case measure => simp [intOf]; omega
    | false =>
     rw [b1] at P1;cases b2 : isOne t [[123]] with
     | true =>
      rw [if_pos (by rw [b1, b2]; rfl)] at hK;have HX := nextR _ hK;rw [b2] at P2;clear hK nextR;go_wp2_with fail;refine (P1 _).mono ?_; rintro e w2 ⟨rfl, hX⟩;have hB2 := HB0.trans (hX.mono (Nat.le_refl _));clear hX;obtain ⟨d0, d1, d2, d3, -, -, -, -⟩ := zP hB2;go_wp2_with fail;refine (P2 _).mono ?_; rintro e w3 ⟨rfl, hX⟩;have hB3 := zS hB2 hX;clear hX d0 d1 d2 d3;go_wp2_with fail;go_roundw
      case rel => exact ⟨k + 1, q + 1, by omega, by go_num, by go_num, by omega, HX, HB1 _ hB3⟩
      case measure => simp [intOf]; omega
     | false =>
      rw [if_neg (by rw [b1, b2]; simp)] at hK;rw [b2] at P2;cases b3 : isOne t [[41]] with
      | true =>
       rw [if_pos (by rw [b3]; rfl)] at hK;rw [b3] at P3;by_cases hq0 : q = 0
       ·
        subst hq0;rw [if_pos rfl] at hK;have HX : Hid (false = c.ahead y.data.toList) := hK;clear hK nextR;go_wp2_with fail;refine (P1 _).mono ?_; rintro e w2 ⟨rfl, hX⟩;have hB2 := HB0.trans (hX.mono (Nat.le_refl _));clear hX;obtain ⟨d0, d1, d2, d3, -, -, -, -⟩ := zP hB2;go_wp2_with fail;refine (P2 _).mono ?_; rintro e w3 ⟨rfl, hX⟩;have hB3 := zS hB2 hX;clear hX d0 d1 d2 d3;obtain ⟨d0, d1, d2, d3, -, -, -, -⟩ := zP hB3;go_wp2_with fail;refine (P3 _).mono ?_; rintro e w4 ⟨rfl, hX⟩;have hB4 := zS hB3 hX;clear hX d0 d1 d2 d3;go_wp2_with fail;try rw [Exit.noGoto_ret]
        go_ret;rw [<- HX.out];exact ⟨rfl, HB2 _ hB4⟩
       ·
        have hq1 : 0 < q := by omega
        have hq2 : decide ((q : Int) - 1 < 0) = false := by simp; omega
        rw [if_neg hq0] at hK;have HX := nextR _ hK;clear hK nextR;clear hq0;go_wp2_with fail;refine (P1 _).mono ?_; rintro e w2 ⟨rfl, hX⟩;have hB2 := HB0.trans (hX.mono (Nat.le_refl _));clear hX;obtain ⟨d0, d1, d2, d3, -, -, -, -⟩ := zP hB2;go_wp2_with fail;refine (P2 _).mono ?_; rintro e w3 ⟨rfl, hX⟩;have hB3 := zS hB2 hX;clear hX d0 d1 d2 d3;obtain ⟨d0, d1, d2, d3, -, -, -, -⟩ := zP hB3;go_wp2_with fail;refine (P3 _).mono ?_; rintro e w4 ⟨rfl, hX⟩;have hB4 := zS hB3 hX;clear hX d0 d1 d2 d3;go_wp2_with fail;go_roundw
        case rel => exact ⟨k + 1, q - 1, by omega, by go_num, by congr 1; omega, by omega, HX, HB1 _ hB4⟩
        case measure => simp [intOf]; omega
      | false =>
       rw [b3] at P3;cases b4 : isOne t [[125]] with
       | true =>
        rw [if_pos (by rw [b3, b4]; rfl)] at hK;rw [b4] at P4;by_cases hq0 : q = 0
        ·
         subst hq0;rw [if_pos rfl] at hK;have HX : Hid (false = c.ahead y.data.toList) := hK;clear hK nextR;go_wp2_with fail;refine (P1 _).mono ?_; rintro e w2 ⟨rfl, hX⟩;have hB2 := HB0.trans (hX.mono (Nat.le_refl _));clear hX;obtain ⟨d0, d1, d2, d3, -, -, -, -⟩ := zP hB2;go_wp2_with fail;refine (P2 _).mono ?_; rintro e w3 ⟨rfl, hX⟩;have hB3 := zS hB2 hX;clear hX d0 d1 d2 d3;obtain ⟨d0, d1, d2, d3, -, -, -, -⟩ := zP hB3;go_wp2_with fail;refine (P3 _).mono ?_; rintro e w4 ⟨rfl, hX⟩;have hB4 := zS hB3 hX;clear hX d0 d1 d2 d3;obtain ⟨d0, d1, d2, d3, -, -, -, -⟩ := zP hB4;go_wp2_with fail;refine (P4 _).mono ?_; rintro e w5 ⟨rfl, hX⟩;have hB5 := zS hB4 hX;clear hX d0 d1 d2 d3;go_wp2_with fail;try rw [Exit.noGoto_ret]
         go_ret;rw [<- HX.out];exact ⟨rfl, HB2 _ hB5⟩
        ·
         have hq1 : 0 < q := by omega
         have hq2 : decide ((q : Int) - 1 < 0) = false := by simp; omega
         rw [if_neg hq0] at hK;have HX := nextR _ hK;clear hK nextR;clear hq0;go_wp2_with fail;refine (P1 _).mono ?_; rintro e w2 ⟨rfl, hX⟩;have hB2 := HB0.trans (hX.mono (Nat.le_refl _));clear hX;obtain ⟨d0, d1, d2, d3, -, -, -, -⟩ := zP hB2;go_wp2_with fail;refine (P2 _).mono ?_; rintro e w3 ⟨rfl, hX⟩;have hB3 := zS hB2 hX;clear hX d0 d1 d2 d3;obtain ⟨d0, d1, d2, d3, -, -, -, -⟩ := zP hB3;go_wp2_with fail;refine (P3 _).mono ?_; rintro e w4 ⟨rfl, hX⟩;have hB4 := zS hB3 hX;clear hX d0 d1 d2 d3;obtain ⟨d0, d1, d2, d3, -, -, -, -⟩ := zP hB4;go_wp2_with fail;refine (P4 _).mono ?_; rintro e w5 ⟨rfl, hX⟩;have hB5 := zS hB4 hX;clear hX d0 d1 d2 d3;go_wp2_with fail;go_roundw
         case rel => exact ⟨k + 1, q - 1, by omega, by go_num, by congr 1; omega, by omega, HX, HB1 _ hB5⟩
         case measure => simp [intOf]; omega
       | false =>
        rw [if_neg (by rw [b3, b4]; simp)] at hK;rw [b4] at P4;by_cases hq0 : 0 < q
        ·
         have hqz : ((q : Int) == 0) = false := by rw [beq_eq_false_iff_ne]; omega
         have hqz2 : (q == 0) = false := by rw [beq_eq_false_iff_ne]; omega
         rw [if_pos hq0] at hK;have HX := nextR _ hK;clear hK nextR;go_wp2_with fail;refine (P1 _).mono ?_; rintro e w2 ⟨rfl, hX⟩;have hB2 := HB0.trans (hX.mono (Nat.le_refl _));clear hX;obtain ⟨d0, d1, d2, d3, -, -, -, -⟩ := zP hB2;go_wp2_with fail;refine (P2 _).mono ?_; rintro e w3 ⟨rfl, hX⟩;have hB3 := zS hB2 hX;clear hX d0 d1 d2 d3;obtain ⟨d0, d1, d2, d3, -, -, -, -⟩ := zP hB3;go_wp2_with fail;refine (P3 _).mono ?_; rintro e w4 ⟨rfl, hX⟩;have hB4 := zS hB3 hX;clear hX d0 d1 d2 d3;obtain ⟨d0, d1, d2, d3, -, -, -, -⟩ := zP hB4;go_wp2_with fail;refine (P4 _).mono ?_; rintro e w5 ⟨rfl, hX⟩;have hB5 := zS hB4 hX;clear hX d0 d1 d2 d3;go_wp2_with fail;go_roundw
         case rel => exact ⟨k + 1, q, by omega, by go_num, rfl, by omega, HX, HB1 _ hB5⟩
         case measure => simp [intOf]; omega
        ·
         rw [if_neg hq0] at hK;obtain rfl : q = 0 := by omega
         clear hq0 hq;cases b5 : isOne t [[59]] with
         | true =>
          rw [if_pos b5] at hK;rw [b5] at P5;have HX : Hid (false = c.ahead y.data.toList) := hK;clear hK nextR;go_wp2_with fail;refine (P1 _).mono ?_; rintro e w2 ⟨rfl, hX⟩;have hB2 := HB0.trans (hX.mono (Nat.le_refl _));clear hX;obtain ⟨d0, d1, d2, d3, -, -, -, -⟩ := zP hB2;go_wp2_with fail;refine (P2 _).mono ?_; rintro e w3 ⟨rfl, hX⟩;have hB3 := zS hB2 hX;clear hX d0 d1 d2 d3;obtain ⟨d0, d1, d2, d3, -, -, -, -⟩ := zP hB3;go_wp2_with fail;refine (P3 _).mono ?_; rintro e w4 ⟨rfl, hX⟩;have hB4 := zS hB3 hX;clear hX d0 d1 d2 d3;obtain ⟨d0, d1, d2, d3, -, -, -, -⟩ := zP hB4;go_wp2_with fail;refine (P4 _).mono ?_; rintro e w5 ⟨rfl, hX⟩;have hB5 := zS hB4 hX;clear hX d0 d1 d2 d3;obtain ⟨d0, d1, d2, d3, -, -, -, -⟩ := zP hB5;go_wp2_with fail;refine (P5 _).mono ?_; rintro e w6 ⟨rfl, hX⟩;have hB6 := zS hB5 hX;clear hX d0 d1 d2 d3;go_wp2_with fail;try rw [Exit.noGoto_ret]
          go_ret;rw [<- HX.out];exact ⟨rfl, HB2 _ hB6⟩
         | false =>
          rw [if_neg (by rw [b5]; simp)] at hK;rw [b5] at P5;cases b6 : isOne t [y.data.toList] with
          | true =>
           rw [if_pos b6] at hK;rw [b6] at P6;have HX : Hid (true = c.ahead y.data.toList) := hK;clear hK nextR;go_wp2_with fail;refine (P1 _).mono ?_; rintro e w2 ⟨rfl, hX⟩;have hB2 := HB0.trans (hX.mono (Nat.le_refl _));clear hX;obtain ⟨d0, d1, d2, d3, -, -, -, -⟩ := zP hB2;go_wp2_with fail;refine (P2 _).mono ?_; rintro e w3 ⟨rfl, hX⟩;have hB3 := zS hB2 hX;clear hX d0 d1 d2 d3;obtain ⟨d0, d1, d2, d3, -, -, -, -⟩ := zP hB3;go_wp2_with fail;refine (P3 _).mono ?_; rintro e w4 ⟨rfl, hX⟩;have hB4 := zS hB3 hX;clear hX d0 d1 d2 d3;obtain ⟨d0, d1, d2, d3, -, -, -, -⟩ := zP hB4;go_wp2_with fail;refine (P4 _).mono ?_; rintro e w5 ⟨rfl, hX⟩;have hB5 := zS hB4 hX;clear hX d0 d1 d2 d3;obtain ⟨d0, d1, d2, d3, -, -, -, -⟩ := zP hB5;go_wp2_with fail;refine (P5 _).mono ?_; rintro e w6 ⟨rfl, hX⟩;have hB6 := zS hB5 hX;clear hX d0 d1 d2 d3;obtain ⟨d0, d1, d2, d3, -, -, -, -⟩ := zP hB6;go_wp2_with fail;refine (P6 _).mono ?_; rintro e w7 ⟨rfl, hX⟩;have hB7 := zS hB6 hX;clear hX d0 d1 d2 d3;go_wp2_with fail;try rw [Exit.noGoto_ret]
           go_ret;rw [<- HX.out];exact ⟨rfl, HB2 _ hB7⟩
          | false =>
           rw [if_neg (by rw [b6]; simp)] at hK;rw [b6] at P6;have HX := nextR _ hK;clear hK nextR;go_wp2_with fail;refine (P1 _).mono ?_; rintro e w2 ⟨rfl, hX⟩;have hB2 := HB0.trans (hX.mono (Nat.le_refl _));clear hX;obtain ⟨d0, d1, d2, d3, -, -, -, -⟩ := zP hB2;go_wp2_with fail;refine (P2 _).mono ?_; rintro e w3 ⟨rfl, hX⟩;have hB3 := zS hB2 hX;clear hX d0 d1 d2 d3;obtain ⟨d0, d1, d2, d3, -, -, -, -⟩ := zP hB3;go_wp2_with fail;refine (P3 _).mono ?_; rintro e w4 ⟨rfl, hX⟩;have hB4 := zS hB3 hX;clear hX d0 d1 d2 d3;obtain ⟨d0, d1, d2, d3, -, -, -, -⟩ := zP hB4;go_wp2_with fail;refine (P4 _).mono ?_; rintro e w5 ⟨rfl, hX⟩;have hB5 := zS hB4 hX;clear hX d0 d1 d2 d3;obtain ⟨d0, d1, d2, d3, -, -, -, -⟩ := zP hB5;go_wp2_with fail;refine (P5 _).mono ?_; rintro e w6 ⟨rfl, hX⟩;have hB6 := zS hB5 hX;clear hX d0 d1 d2 d3;obtain ⟨d0, d1, d2, d3, -, -, -, -⟩ := zP hB6;go_wp2_with fail;refine (P6 _).mono ?_; rintro e w7 ⟨rfl, hX⟩;have hB7 := zS hB6 hX;clear hX d0 d1 d2 d3;go_wp2_with fail;go_roundw
           case rel => exact ⟨k + 1, 0, by omega, by go_num, rfl, by omega, HX, HB1 _ hB7⟩
           case measure => simp [intOf]; omega
   ·
    obtain rfl : k = ln := by omega
    have hX := HK.out;rw [List.drop_of_length_le (by rw [<- hln.out]; exact Nat.le_refl _)] at hX;have HX : Hid (false = c.ahead y.data.toList) := hX;clear hX;go_wp2_with fail;try rw [Exit.noGoto_ret]
    go_ret;rw [<- HX.out];exact ⟨rfl, hBw⟩
 ·
  have hb : (c.err != 0) = true := by rw [bne_iff_ne]; exact he
  have hR : Hid (c.ahead y.data.toList = false) := by show _ = _; unfold Cu.ahead; simp [he]
  clear he;go_enter Tryz.func93, Tryz.ntmps93;go_wp2_with fail;go_ret;rw [hR.out];exact ⟨rfl, hBa⟩
end Go.Proofs.YtdjomhbmhooceaaGreat.N5
