/- The walk of the law CursorPlays. -/
import Derived.Test.YtehcccjgepbnjaaCurPlayArms
import Derived.Deep.DeepCutAuto
import Derived.Deep.CutBlock
import Derived.Deep.CutRange
import Derived.Deep.RegionHeld3
namespace Go.Proofs.Ytehcccjgepbnjaa
open Go.RowKit
attribute [local go_sem] fld0 fld1

set_option maxRecDepth 100000 in
set_option maxHeartbeats 8000000 in
theorem walk_CursorPlays (v u : Value) (xs : List Tk) (ds : List Dd) (w : World) (h : ArgRow w v xs) (hd : DRow w u ds) : Calls Try.prog 3 #[v, u] w (RunsTo true w) := by
  obtain ⟨a, n, cap, rfl, hn⟩ : ∃ a n cap, v = .slice a n cap ∧ n = xs.length := by
    rcases h with ⟨rfl, rfl⟩ | ⟨a, cap, rfl, _⟩
    · exact ⟨none, 0, 0, rfl, rfl⟩
    · exact ⟨some a, _, cap, rfl, rfl⟩
  obtain ⟨b, cb, rfl, hdr⟩ := hd
  obtain ⟨m, hm⟩ : ∃ m, m = ds.length := ⟨_, rfl⟩
  have HM : Hid (m = ds.length) := hm
  have HD : Hid (ds = [] ∨ ∃ g o, b = some ⟨g, o, none⟩ ∧ g < w.heap.size ∧ ∀ j (hj : j < ds.length), DdAt w g o j ds[j]) := hdr
  rw [← hm]
  clear hdr hm
  have HFew := few_any a b n m cap cb w
  by_cases hbig : n ≤ 100 ∧ m ≤ 300
  · rw [show (decide (n ≤ 100) && decide (m ≤ 300)) = true by simp [hbig.1, hbig.2]] at HFew
    have HN := new_any _ xs w h (by omega)
    have hWR : WRow w.heap.size w (.slice a n cap) xs := by
      rcases h with ⟨h1, h2⟩ | ⟨a', cap', h1, hc, h2⟩
      · rw [h1, h2]; exact ⟨none, 0, rfl, Nat.le_refl _, .inl rfl⟩
      · refine ⟨some a', cap', h1, hc, ?_⟩
        rcases h2 with h2 | ⟨g, o, rfl, h4, h5⟩
        · exact .inl h2
        · exact .inr ⟨g, o, rfl, h4, h5⟩
    have HR := fun w2 (hb : Below w.heap.size w w2) => refnew_any w.heap.size _ xs w2 (hWR.below hb) hb.size (by omega)
    have hm9 := hbig.2
    generalize newCu xs = c0 at *
    clear h hbig hn hWR
    go_enter Try.func3, Try.ntmps3
    go_wp2_with fail
    refine HFew.mono ?_; rintro e w1 ⟨rfl, rfl⟩
    go_wp2_with fail
    refine HN.mono ?_; rintro e w1 ⟨v1, rfl, hc, hB, -⟩
    have HR := HR w1 hB
    clear HN HFew
    go_wp2_with fail
    refine HR.mono ?_; rintro e w2 ⟨x', rfl, hx, hB2⟩
    obtain ⟨a0, ln0, cap0, rfl, hr, -⟩ := hx.shape
    clear HR hx
    have hB3 := hB2.alloc hB2.size (.cells (refC (.slice a0 ln0 cap0) c0.ep c0.nest c0.err c0.pos) 31)
    have hX0 : w.heap.size < w2.heap.size := Nat.lt_of_lt_of_le hc.lt hB2.size
    have hfar : c0.ws ≠ [] → ∀ g o m k, v1 = .slice (some ⟨g, o, none⟩) m k → g ≠ w2.heap.size := by
      intro h0 g o m k hv
      obtain ⟨a9, cap9, h1, _, h2 | ⟨g', o', h3, h4, _, _⟩⟩ := hc.row
      · exact absurd h2 h0
      · rw [h1, h3] at hv
        injection hv with hv
        injection hv with hv
        injection hv with hv
        have := hB2.size
        omega
    have hSt : St w w.heap.size w.heap.size w2.heap.size v1 c0 c0 a0 ln0 cap0 (w2.alloc (.cells (refC (.slice a0 ln0 cap0) c0.ep c0.nest c0.err c0.pos) 31)) :=
      ⟨hc.below hB3, World.alloc_heap_new w2 _, hr.out.below (((Below.refl _ w2).alloc (Nat.le_refl _) _).mono (Nat.le_trans hB.size hB2.size)), hB.trans (hB3.mono hB.size), hfar, Nat.ne_of_lt hX0, Nat.le_refl _, Nat.le_of_lt hX0⟩
    clear hfar hr hc hB hB2 hB3
    go_wp2_with fail
    generalize w2.heap.size = X at *
    go_loopg [7] m (fun z i wx => ∃ (j : Nat) (c : Cu) (a1 : Option Addr) (ln1 cap1 : Nat), j + z = m ∧ i = .int .i64 (j : Int) ∧ Hid (St w w.heap.size w.heap.size X v1 c c a1 ln1 cap1 wx))
    case atStart => exact ⟨0, c0, a0, ln0, cap0, Nat.zero_add _, rfl, hSt⟩
    case round =>
      clear hSt
      obtain ⟨j, c, a1, ln1, cap1, hjm, rfl, HS⟩ := hrel
      by_cases hlt : j < m
      · have hlt' : (j : Int) < m := by omega
        have hjd : j < ds.length := by rw [← HM.out]; exact hlt
        obtain ⟨g, o, rfl, hg, hcell⟩ : ∃ g o, b = some ⟨g, o, none⟩ ∧ g < w.heap.size ∧ ∀ j (hj : j < ds.length), DdAt w g o j ds[j] := by
          rcases HD.out with h | h
          · rw [h] at hjd; simp at hjd
          · exact h
        obtain ⟨a0, a1', a2⟩ := (hcell j hjd).below HS.out.bel hg
        generalize ds[j] = d at *
        clear hcell
        go_upto_block 2 with fail
        go_cut [8, 10, 11, 12, 13, 14, 15, 16, 17, 18, 19, 20, 21, 22] (fun s8 s10 s11 s12 s13 s14 s15 s16 s17 s18 s19 s20 s21 s22 wx => s8 = .bool true ∧ ∃ (c' : Cu) (a' : Option Addr) (ln' cap' : Nat), Hid (St w w.heap.size w.heap.size X v1 c' c' a' ln' cap' wx))
        case first J1 K1 hJ1 hK1 =>
          have hS := HS.out.below ((Below.refl _ wr).alloc (Nat.le_refl _) (.cells #[.int .i64 d.kind, .int .i64 d.num, .string d.text] 34))
          have hD : (wr.alloc (.cells #[.int .i64 d.kind, .int .i64 d.num, .string d.text] 34)).heap[wr.heap.size]? = some (.cells #[.int .i64 d.kind, .int .i64 d.num, .string d.text] 34 (0, 0)) := World.alloc_heap_new wr _
          have hP : Pl w w.heap.size w.heap.size X wr.heap.size v1 d c c a1 ln1 cap1 (wr.alloc (.cells #[.int .i64 d.kind, .int .i64 d.num, .string d.text] 34)) :=
            ⟨hS, hD, Nat.ne_of_gt (Array.getElem?_eq_some_iff.1 HS.out.blk).1, Nat.ne_of_gt HS.out.cur.lt⟩
          clear HS hS hD a0 a1' a2 hjm hlt hlt' hjd HD hg
          generalize wr.alloc (.cells #[.int .i64 d.kind, .int .i64 d.num, .string d.text] 34) = W at *
          generalize wr.heap.size = D at *
          have hk := kinds10 d.kind
          generalize w.heap.size = B at *
          rcases hk with hk | hk | hk | hk | hk | hk | hk | hk | hk | hk
          · exact arm0 hP hk _ J1 K1 hJ1 hK1
          · exact arm1 hP hk _ J1 K1 hJ1 hK1
          · exact arm2 hP hk _ J1 K1 hJ1 hK1
          · exact arm3 hP hk _ J1 K1 hJ1 hK1
          · exact arm4 hP hk _ J1 K1 hJ1 hK1
          · exact arm5 hP hk _ J1 K1 hJ1 hK1
          · exact arm6 hP hk _ J1 K1 hJ1 hK1
          · exact arm7 hP hk _ J1 K1 hJ1 hK1
          · exact arm8 hP hk _ J1 K1 hJ1 hK1
          · exact arm9 hP hk _ J1 K1 hJ1 hK1
        case rest =>
          obtain ⟨rfl, c', a', ln', cap', hS⟩ := hcut
          clear HS a0 a1' a2
          have hS := hS.out
          have hX := (Array.getElem?_eq_some_iff.1 hS.blk).1
          have hle := hS.bel.size
          have HD1 := done_any hS.cur
          go_wp2_with fail
          refine HD1.mono ?_; rintro e w3 ⟨rfl, hB3⟩
          have hS := hS.below hB3
          have hle := hS.bel.size
          have HD2 := refdone_any (n := w.heap.size) (w := w3) (c := c') ⟨_, rfl, hS.row⟩ hle hS.cur.ok
          obtain ⟨⟨y0, y1, y2, y3, y4, y5, y6, y7⟩, -⟩ := cells8 hS.blk
          clear HD1 hB3
          go_wp2_with fail
          refine HD2.mono ?_; rintro e w4 ⟨rfl, hB4⟩
          have hS := hS.below hB4
          have hle := hS.bel.size
          clear HD2 hB4 y0 y1 y2 y3 y4 y5 y6 y7
          have HP1 : ∀ w5, Below w4.heap.size w4 w5 → Calls Try.prog 31 #[.pointer (some ⟨w.heap.size, 0, none⟩)] w5 fun e w' => e = .returned c'.peek.val ∧ Below w4.heap.size w4 w' :=
            fun w5 hB => (peek_any (hS.below hB).cur).mono fun e w' h => ⟨h.1, hB.trans (h.2.mono hB.size)⟩
          have HP2 : ∀ w5, Below w4.heap.size w4 w5 → Calls Try.prog 32 #[.agg (refC (.slice a' ln' cap') c'.ep (c'.nest : Int) c'.err c'.pos)] w5 fun e w' => e = .returned c'.peek.val ∧ Below w4.heap.size w4 w' :=
            fun w5 hB => (refpeek_any (n := w.heap.size) (w := w5) (c := c') ⟨_, rfl, (hS.below hB).row⟩ (Nat.le_trans hle hB.size)).mono fun e w' h => ⟨h.1, hB.trans (h.2.mono hB.size)⟩
          have KEEP : Hid (∀ wx, Below w4.heap.size w4 wx → Below w4.heap.size w4 wx ∧ wx.cell? ⟨X, 0, none⟩ = some (.slice a' ln' cap') ∧ wx.cell? ⟨X, 1, none⟩ = some (.int .i64 0) ∧ wx.cell? ⟨X, 2, none⟩ = some (.int .i64 c'.ep) ∧ wx.cell? ⟨X, 3, none⟩ = some (.int .i64 0) ∧ wx.cell? ⟨X, 4, none⟩ = some (.string ⟨#[]⟩) ∧ wx.cell? ⟨X, 5, none⟩ = some (.int .i64 (c'.nest : Int)) ∧ wx.cell? ⟨X, 6, none⟩ = some (.int .i64 c'.err) ∧ wx.cell? ⟨X, 7, none⟩ = some (.int .i64 c'.pos)) := fun wx hB => ⟨hB, (cells8 (hS.below hB).blk).1⟩
          have FIN : Hid (∀ w5, Below w4.heap.size w4 w5 → St w w.heap.size w.heap.size X v1 c' c' a' ln' cap' w5) := fun w5 hB => hS.below hB
          have hv : c'.peek.val = .agg #[.int .i64 c'.peek.kind, .int .i64 c'.peek.pos, .int .i64 c'.peek.num, .string ⟨c'.peek.text.toArray⟩] := rfl
          rw [hv] at HP1 HP2
          clear hv
          obtain ⟨⟨y0, y1, y2, y3, y4, y5, y6, y7⟩, -⟩ := cells8 hS.blk
          clear hS
          generalize c'.peek = t at *
          generalize c'.doneP = dp at *
          generalize c'.doneE = de at *
          go_upto_region 43 with fail
          go_region_held3 (fun wx => Below w4.heap.size w4 wx ∧ wx.cell? ⟨X, 0, none⟩ = some (.slice a' ln' cap') ∧ wx.cell? ⟨X, 1, none⟩ = some (.int .i64 0) ∧ wx.cell? ⟨X, 2, none⟩ = some (.int .i64 c'.ep) ∧ wx.cell? ⟨X, 3, none⟩ = some (.int .i64 0) ∧ wx.cell? ⟨X, 4, none⟩ = some (.string ⟨#[]⟩) ∧ wx.cell? ⟨X, 5, none⟩ = some (.int .i64 (c'.nest : Int)) ∧ wx.cell? ⟨X, 6, none⟩ = some (.int .i64 c'.err) ∧ wx.cell? ⟨X, 7, none⟩ = some (.int .i64 c'.pos))
            (first | exact KEEP.out _ ((Below.refl _ w4).drew) | exact KEEP.out _ hacc)
            (first
            | (go_at_call 31; refine (HP1 _ ?_).mono ?_; (first | exact hacc | exact (Below.refl _ w4).drew); rintro e w5 ⟨rfl, hacc⟩)
            | (go_at_call 32; refine (HP2 _ ?_).mono ?_; (first | exact hacc | exact (Below.refl _ w4).drew); rintro e w6 ⟨rfl, hacc⟩))
          clear HP1 HP2 KEEP y0 y1 y2 y3 y4 y5 y6 y7
          go_wp2_with fail
          obtain ⟨g, rfl⟩ : ∃ g, gk = g + 1 := ⟨gk - 1, by omega⟩
          go_roundg g
          case measure => omega
          case rel => exact ⟨j + 1, c', a', ln', cap', by omega, by go_num, FIN.out _ hacc⟩
      · obtain rfl : j = m := by omega
        have hbel := HS.out.bel
        clear HS
        go_wp2_with fail
        refine (awake_any _).mono ?_; rintro e w6 ⟨rfl, hB6⟩
        go_wp2
        try rw [Exit.noGoto_ret]
        go_ret
        exact ⟨rfl, hbel.trans (hB6.mono hbel.size)⟩
  · have hbf : (decide (n ≤ 100) && decide (m ≤ 300)) = false := by
      rw [Bool.and_eq_false_iff]
      by_cases h1 : n ≤ 100
      · exact .inr (by simp; omega)
      · exact .inl (by simp; omega)
    rw [hbf] at HFew
    clear h hbig hn hbf HD HM
    go_enter Try.func3, Try.ntmps3
    go_wp2_with fail
    refine HFew.mono ?_; rintro e w1 ⟨rfl, rfl⟩
    go_wp2_with fail
    refine (awake_any _).mono ?_; rintro e w2 ⟨rfl, hB⟩
    go_wp2
    go_ret
    exact ⟨rfl, hB⟩
end Go.Proofs.Ytehcccjgepbnjaa
