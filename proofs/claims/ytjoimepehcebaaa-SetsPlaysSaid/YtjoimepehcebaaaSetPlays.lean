/- The law SetsPlays answers true. -/
import Derived.Test.YtjoimepehcebaaaSetLaws2
import Derived.Deep.RegionHeld3
namespace Go.Proofs.Ytjoimepehcebaaa
open Go.RowKit Go.Maps

/-- a deed as it lies -/
structure Deed where
  kind : Int
  text : Tx
def encD (d : Deed) : List Value := [.int .i64 d.kind, .string ⟨d.text.toArray⟩]
theorem encD_len (d : Deed) : (encD d).length = 2 := rfl
theorem row_deed {B : Nat} {w : World} {p : Option Addr} {n cap : Nat} {xs : List Deed} (h : RowAt B w encD (.slice p n cap) xs) (i : Nat) (hi : i < xs.length) :
    ∃ g o, p = some ⟨g, o, none⟩ ∧ g < B ∧ w.cell? ⟨g, o + i * 2, none⟩ = some (.int .i64 (xs[i]).kind) ∧ w.cell? ⟨g, o + i * 2 + 1, none⟩ = some (.string ⟨(xs[i]).text.toArray⟩) := by
  obtain ⟨g, o, cap', e, -, hg, hg', hc⟩ := h.at (by omega)
  injection e with e1 e2 e3
  refine ⟨g, o, e1, hg, hc (i * 2) _ ?_, hc (i * 2 + 1) _ ?_⟩
  · have := flat_at encD_len xs i hi 0 (by omega)
    simpa [encD] using this
  · have := flat_at encD_len xs i hi 1 (by omega)
    simpa [encD] using this

theorem past_map {α : Type} {enc : α → List Value} {w w' : World} {v : Value} {xs : List α} {b n : Nat} {D : DataW Unit} (h : RowAt w.heap.size w enc v xs) (ho : w.ownsMap Try.prog 9 unitElem b n D) (hg : w.grownBy w' (some b)) : RowAt w'.heap.size w' enc v xs := by
  obtain ⟨p, cap, rfl, hl, hc⟩ := h
  refine ⟨p, cap, rfl, hl, hc.imp id ?_⟩
  rintro ⟨g, o, rfl, hg1, -, hc⟩
  refine ⟨g, o, rfl, Nat.lt_of_lt_of_le hg1 hg.size, Nat.lt_of_lt_of_le hg1 hg.size, fun j u hu => ?_⟩
  have hcell := hc j u hu
  refine hg.cell hcell ?_
  intro e
  injection e with e
  have e : g = b := e
  subst e
  obtain ⟨es, clock, hb, -⟩ := ho
  simp [World.cell?, hb] at hcell
theorem cells_two {w : World} {a b : Value} {ty : TypeId} : (w.alloc (.cells #[a, b] ty)).cell? ⟨w.heap.size, 0, none⟩ = some a ∧ (w.alloc (.cells #[a, b] ty)).cell? ⟨w.heap.size, 1, none⟩ = some b := by
  rw [World.cell?_alloc_at _ _ _ _ rfl, World.cell?_alloc_at _ _ _ _ rfl]; exact ⟨rfl, rfl⟩
set_option maxRecDepth 100000 in
set_option maxHeartbeats 8000000 in
theorem walk_SetsPlays {w : World} {v u : Value} {xs : List Tx} {ds : List Deed} (h : RowAt w.heap.size w encS v xs) (hu : RowAt w.heap.size w encD u ds) (hb : bigs xs) (hb2 : ∀ d ∈ ds, d.text.length ≤ maxLen) :
    Calls Try.prog 3 #[v, u] w (SaysW true w) := by
  have H := Lib.hid h
  have HU := Lib.hid hu
  obtain ⟨p, cap, rfl, -, -⟩ := h
  obtain ⟨p2, cap2, rfl, -, -⟩ := hu
  have HA := awake_any
  by_cases hbig : 200 < xs.length ∨ 200 < ds.length
  · by_cases h1 : 200 < xs.length
    · have h1' : (200 : Int) < (xs.length : Int) := by omega
      generalize xs.length = len at *
      generalize ds.length = len2 at *
      clear hbig
      go_enter Try.func3, Try.ntmps3
      go_wp2_with fail
      refine (HA _).mono ?_; rintro e w1 ⟨rfl, hB⟩
      go_wp2
      go_ret
      exact ⟨rfl, hB⟩
    · have h1' : ¬ (200 : Int) < (xs.length : Int) := by omega
      have h2' : (200 : Int) < (ds.length : Int) := by omega
      generalize xs.length = len at *
      generalize ds.length = len2 at *
      clear hbig
      go_enter Try.func3, Try.ntmps3
      go_wp2_with fail
      refine (HA _).mono ?_; rintro e w1 ⟨rfl, hB⟩
      go_wp2
      go_ret
      exact ⟨rfl, hB⟩
  · have h1' : ¬ (200 : Int) < (xs.length : Int) := by omega
    have h2' : ¬ (200 : Int) < (ds.length : Int) := by omega
    have hl1 : xs.length ≤ 200 := by omega
    have hl2 : ds.length ≤ 200 := by omega
    have HN := new_any w _ xs H.out hb (by omega)
    have HO := fun w' hB => refof_any (H.out.later (w' := w') hB) (by omega)
    have HB2 := Lib.hid hb2
    clear hb2 hb
    generalize hlx : xs.length = len at *
    generalize hly : ds.length = len2 at *
    have HLY := Lib.hid hly
    clear hlx hly hbig
    generalize ofT xs = aa at *
    go_enter Try.func3, Try.ntmps3
    go_wp2_with fail
    refine HN.mono ?_; rintro e W1 ⟨s, sm, rfl, hs, hs1, hs2, hB⟩
    have hT1 := hB
    clear hB
    go_wp2_with fail
    refine (HO _ hT1).mono ?_; rintro e W2 ⟨va, rfl, ha, hB⟩
    have hs := hs.below hB
    have hT2 := hT1.trans (hB.mono hT1.size)
    clear hB hT1 HN HO
    go_wp2_with fail
    go_loopw [6, 7] (fun x i wr => ∃ (k : Nat) (zs : List Tx), k ≤ len2 ∧ i = .int .i64 k ∧ SetAt wr s sm (len + k) zs ∧ RowAt wr.heap.size wr encS x zs ∧ Below w.heap.size w wr) (fun _ i _ => len2 - (intOf i).toNat)
    case atStart => exact ⟨0, aa, Nat.zero_le _, rfl, hs, ha, hT2⟩
    case round =>
      obtain ⟨k, zs, hk, rfl, hs, hx, hB⟩ := hrel
      by_cases hlt : k < len2
      · have hlx : k < ds.length := by rw [HLY.out]; exact hlt
        obtain ⟨g, o, rfl, hg, hc0, hc1⟩ := row_deed (HU.out) k hlx
        have hc0 := (hB.cell (p := ⟨g, o + k * 2, none⟩) hg).trans hc0
        have hc1 := (hB.cell (p := ⟨g, o + k * 2 + 1, none⟩) hg).trans hc1
        have hxl := HB2.out _ (List.getElem_mem hlx)
        generalize (ds[k]).text = x at *
        generalize (ds[k]).kind = q at *
        have hnz := hs.canon
        have hsm := hs.own.lt
        have hbl := (Below.refl _ wr).alloc (Nat.le_refl _) (.cells #[.int .i64 q, .string ⟨x.toArray⟩] 29)
        have hz := cells_two (w := wr) (a := .int .i64 q) (b := .string ⟨x.toArray⟩) (ty := 29)
        have hs := hs.below hbl
        have hx := hx.later hbl
        have hB := hB.trans (hbl.mono hB.size)
        have hlw : wr.heap.size < (wr.alloc (.cells #[.int .i64 q, .string ⟨x.toArray⟩] 29)).heap.size := by simp
        obtain ⟨wT, hwT⟩ : ∃ wT, wT = wr.alloc (.cells #[.int .i64 q, .string ⟨x.toArray⟩] 29) := ⟨_, rfl⟩
        rw [← hwT] at hs hx hB hz hlw
        obtain ⟨hz0, hz1⟩ := hz
        have HWT := Lib.hid hwT
        clear hwT hbl
        by_cases hq : q = 0
        · have hqb : (q == 0) = true := by rw [hq]; rfl
          have HR := fun w' (hb : Below wT.heap.size wT w') => refadd_any (hx.later (w' := w') hb) (by omega) x
          have HP := fun w' (hb : Below wT.heap.size wT w') => add_any (hs.below (w' := w') hb) x hxl (by unfold maxLen; omega)
          clear hq
          generalize insT x zs = ys at *
          generalize (!there x zs) = bb at *
          go_wp2_with fail
          rw [← HWT.out]
          refine (HR wT (Below.refl _ _)).mono ?_; rintro e w3 ⟨v3, rfl, hx3, hB3⟩
          have hz3 := (hB3.cell (p := ⟨wr.heap.size, 1, none⟩) hlw).trans hz1
          have HP3 := HP w3 hB3
          go_wp2_with fail
          refine HP3.mono ?_; rintro e w4 ⟨rfl, hs4, hg4⟩
          have hx4 := past_map hx3 (hs.below hB3).own hg4
          have hz4 := hg4.cell hz3 (fun e => by injection e with e; simp at e; omega)
          have hB4 : Below w.heap.size w w4 := (hB.trans (hB3.mono hB.size)).trans (below_of_grown hg4 hs2 (Nat.le_trans hB.size hB3.size))
          have hs4 := hs4.more (n' := len + (k + 1)) (by omega)
          have HP1 : ∀ V, Below w4.heap.size w4 V → Calls Try.prog 14 #[.pointer (some ⟨s, 0, none⟩), .string ⟨x.toArray⟩] V fun e w' => e = .returned (.bool (there x ys)) ∧ Below w4.heap.size w4 w' :=
            fun V hb => (has_any (hs4.below hb) x hxl).mono fun e w' h => ⟨h.1, hb.trans (h.2.mono hb.size)⟩
          have hth : decide (x ∈ ys) = there x ys := by rw [Bool.eq_iff_iff, decide_eq_true_eq, there_iff hs4.rises]
          have hyn := hs4.canon
          have HP2 : ∀ V, Below w4.heap.size w4 V → Calls Try.prog 15 #[v3, .string ⟨x.toArray⟩] V fun e w' => e = .returned (.bool (there x ys)) ∧ Below w4.heap.size w4 w' :=
            fun V hb => (hasrow_any (hx4.below hb) (by omega) x).mono fun e w' h => ⟨by rw [← hth]; exact h.1, by rw [← h.2]; exact hb⟩
          have HP3 : ∀ V, Below w4.heap.size w4 V → Calls Try.prog 16 #[.pointer (some ⟨s, 0, none⟩)] V fun e w' => e = .returned (.int .i64 (ys.length : Int)) ∧ Below w4.heap.size w4 w' :=
            fun V hb => (len_any (hs4.below hb)).mono fun e w' h => ⟨h.1, by rw [← h.2]; exact hb⟩
          have KEEP : Hid (∀ wx, Below w4.heap.size w4 wx → Below w4.heap.size w4 wx ∧ wx.cell? ⟨wr.heap.size, 1, none⟩ = some (.string ⟨x.toArray⟩)) := fun wx hb => ⟨hb, (hb.cell (p := ⟨wr.heap.size, 1, none⟩) (Nat.lt_of_lt_of_le hlw (Nat.le_trans hB3.size hg4.size))).trans hz4⟩
          have HS4 := Lib.hid hs4
          have HX4 := Lib.hid hx4
          obtain ⟨p3, c3, rfl, -, -⟩ := hx3
          clear hx4 hs4 hth HR HP
          generalize there x ys = tt at *
          go_wp2_with fail
          go_region_held3 (fun wx => Below w4.heap.size w4 wx ∧ wx.cell? ⟨wr.heap.size, 1, none⟩ = some (.string ⟨x.toArray⟩))
            (first | exact KEEP.out _ ((Below.refl _ w4).drew) | exact KEEP.out _ hacc)
            (first
            | (go_at_call 14; refine (HP1 _ ?_).mono ?_; (first | exact hacc | exact (Below.refl _ w4).drew); rintro e w5 ⟨rfl, hacc⟩)
            | (go_at_call 15; refine (HP2 _ ?_).mono ?_; (first | exact hacc | exact (Below.refl _ w4).drew); rintro e w6 ⟨rfl, hacc⟩)
            | (go_at_call 16; refine (HP3 _ ?_).mono ?_; (first | exact hacc | exact (Below.refl _ w4).drew); rintro e w7 ⟨rfl, hacc⟩))
          all_goals
            go_wp2_with fail
            go_roundw
            case rel => exact ⟨k + 1, ys, by omega, by go_num, HS4.out.below hacc, HX4.out.later hacc, hB4.trans (hacc.mono hB4.size)⟩
            case measure => simp [intOf]; omega
        · have hqb : (q == 0) = false := by rw [beq_eq_false_iff_ne]; exact hq
          have HR := fun w' (hb : Below wT.heap.size wT w') => refremove_any (hx.later (w' := w') hb) (by omega) x
          have HP := fun w' (hb : Below wT.heap.size wT w') => remove_any (hs.below (w' := w') hb) x hxl
          clear hq
          generalize delT x zs = ys at *
          generalize (there x zs) = bb at *
          go_wp2_with fail
          rw [← HWT.out]
          refine (HR wT (Below.refl _ _)).mono ?_; rintro e w3 ⟨v3, rfl, hx3, hB3⟩
          have hz3 := (hB3.cell (p := ⟨wr.heap.size, 1, none⟩) hlw).trans hz1
          have HP3 := HP w3 hB3
          go_wp2_with fail
          refine HP3.mono ?_; rintro e w4 ⟨rfl, hs4, hg4⟩
          have hx4 := past_map hx3 (hs.below hB3).own hg4
          have hz4 := hg4.cell hz3 (fun e => by injection e with e; simp at e; omega)
          have hB4 : Below w.heap.size w w4 := (hB.trans (hB3.mono hB.size)).trans (below_of_grown hg4 hs2 (Nat.le_trans hB.size hB3.size))
          have hs4 := hs4.more (n' := len + (k + 1)) (by omega)
          have HP1 : ∀ V, Below w4.heap.size w4 V → Calls Try.prog 14 #[.pointer (some ⟨s, 0, none⟩), .string ⟨x.toArray⟩] V fun e w' => e = .returned (.bool (there x ys)) ∧ Below w4.heap.size w4 w' :=
            fun V hb => (has_any (hs4.below hb) x hxl).mono fun e w' h => ⟨h.1, hb.trans (h.2.mono hb.size)⟩
          have hth : decide (x ∈ ys) = there x ys := by rw [Bool.eq_iff_iff, decide_eq_true_eq, there_iff hs4.rises]
          have hyn := hs4.canon
          have HP2 : ∀ V, Below w4.heap.size w4 V → Calls Try.prog 15 #[v3, .string ⟨x.toArray⟩] V fun e w' => e = .returned (.bool (there x ys)) ∧ Below w4.heap.size w4 w' :=
            fun V hb => (hasrow_any (hx4.below hb) (by omega) x).mono fun e w' h => ⟨by rw [← hth]; exact h.1, by rw [← h.2]; exact hb⟩
          have HP3 : ∀ V, Below w4.heap.size w4 V → Calls Try.prog 16 #[.pointer (some ⟨s, 0, none⟩)] V fun e w' => e = .returned (.int .i64 (ys.length : Int)) ∧ Below w4.heap.size w4 w' :=
            fun V hb => (len_any (hs4.below hb)).mono fun e w' h => ⟨h.1, by rw [← h.2]; exact hb⟩
          have KEEP : Hid (∀ wx, Below w4.heap.size w4 wx → Below w4.heap.size w4 wx ∧ wx.cell? ⟨wr.heap.size, 1, none⟩ = some (.string ⟨x.toArray⟩)) := fun wx hb => ⟨hb, (hb.cell (p := ⟨wr.heap.size, 1, none⟩) (Nat.lt_of_lt_of_le hlw (Nat.le_trans hB3.size hg4.size))).trans hz4⟩
          have HS4 := Lib.hid hs4
          have HX4 := Lib.hid hx4
          obtain ⟨p3, c3, rfl, -, -⟩ := hx3
          clear hx4 hs4 hth HR HP
          generalize there x ys = tt at *
          go_wp2_with fail
          go_region_held3 (fun wx => Below w4.heap.size w4 wx ∧ wx.cell? ⟨wr.heap.size, 1, none⟩ = some (.string ⟨x.toArray⟩))
            (first | exact KEEP.out _ ((Below.refl _ w4).drew) | exact KEEP.out _ hacc)
            (first
            | (go_at_call 14; refine (HP1 _ ?_).mono ?_; (first | exact hacc | exact (Below.refl _ w4).drew); rintro e w5 ⟨rfl, hacc⟩)
            | (go_at_call 15; refine (HP2 _ ?_).mono ?_; (first | exact hacc | exact (Below.refl _ w4).drew); rintro e w6 ⟨rfl, hacc⟩)
            | (go_at_call 16; refine (HP3 _ ?_).mono ?_; (first | exact hacc | exact (Below.refl _ w4).drew); rintro e w7 ⟨rfl, hacc⟩))
          all_goals
            go_wp2_with fail
            go_roundw
            case rel => exact ⟨k + 1, ys, by omega, by go_num, HS4.out.below hacc, HX4.out.later hacc, hB4.trans (hacc.mono hB4.size)⟩
            case measure => simp [intOf]; omega
      · obtain rfl : k = len2 := by omega
        have hn := hs.canon
        go_wp2_with fail
        refine (list_any hs (by omega)).mono ?_; rintro e w3 ⟨v3, rfl, hr3, hB3⟩
        have HT := texts_any hr3 (hx.later hB3) (by omega) (by omega)
        rw [decide_eq_true rfl] at HT
        have hB4 := hB.trans (hB3.mono hB.size)
        clear hB hB3 hr3
        go_wp2_with fail
        refine HT.mono ?_; rintro e w4 ⟨rfl, hB⟩
        have hB5 := hB4.trans (hB.mono hB4.size)
        clear hB4 hB HT
        go_wp2_with fail
        refine (HA _).mono ?_; rintro e w5 ⟨rfl, hB⟩
        go_wp2
        go_ret
        exact ⟨rfl, hB5.trans (hB.mono hB5.size)⟩
end Go.Proofs.Ytjoimepehcebaaa
