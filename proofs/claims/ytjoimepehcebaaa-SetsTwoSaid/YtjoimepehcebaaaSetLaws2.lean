/- The laws SetsTwo and SetsLaws answer true. -/
import Derived.Test.YtjoimepehcebaaaSetLaws
namespace Go.Proofs.Ytjoimepehcebaaa
open Go.RowKit Go.Maps

theorem union_of (l m : List Tx) : ofT (ofT l ++ ofT m) = unionT (ofT l) (ofT m) := rfl
theorem minus_sub {xs ys : List Tx} (hx : Rises ys) (h : ∀ x ∈ xs, x ∈ ys) : minusT xs ys = [] := by
  unfold minusT
  rw [List.filter_eq_nil_iff]
  intro x hx'
  rw [(there_iff hx).2 (h x hx')]
  simp
theorem minus_twice {xs ys : List Tx} : minusT (minusT xs ys) ys = minusT xs ys := by
  unfold minusT
  rw [List.filter_filter]
  congr 1
  funext x
  simp
theorem union_minus {xs ys : List Tx} (hy : Rises ys) : unionT (minusT xs ys) ys = unionT xs ys := rises_ext (rises_unionT _ _) (rises_unionT _ _) fun x => by
  rw [mem_unionT, mem_unionT, mem_minusT hy]
  by_cases h : x ∈ ys
  · simp [h]
  · simp [h]
theorem union_len {xs ys : List Tx} (hx : Rises xs) (hy : Rises ys) : (unionT xs ys).length = (minusT xs ys).length + ys.length := by
  rw [← union_minus hy, ← List.length_append]
  have nd : ∀ {l : List Tx}, Rises l → l.Nodup := fun h => List.Pairwise.imp (S := (· ≠ ·)) (fun {a b} (h : a < b) (e : a = b) => lt_irr a (by rw [← e] at h; exact h)) h
  apply Nat.le_antisymm
  · exact ofT_len _
  · have hnd : (minusT xs ys ++ ys).Nodup := by
      rw [List.nodup_append]
      exact ⟨nd (rises_minusT hx), nd hy, fun a ha b hb e => ((mem_minusT hy a).1 ha).2 (e ▸ hb)⟩
    have : ∀ (l m : List Tx), l.Nodup → (∀ x ∈ l, x ∈ m) → l.length ≤ m.length := by
      intro l
      induction l with
      | nil => intro m _ _; exact Nat.zero_le _
      | cons a t ih =>
        intro m hn hs
        obtain ⟨m1, m2, rfl⟩ := List.append_of_mem (hs a List.mem_cons_self)
        rw [List.nodup_cons] at hn
        have := ih (m1 ++ m2) hn.2 (fun x hx => by
          have h := hs x (List.mem_cons_of_mem _ hx)
          simp only [List.mem_append, List.mem_cons] at h ⊢
          rcases h with h | rfl | h
          · exact .inl h
          · exact absurd hx hn.1
          · exact .inr h)
        simp only [List.length_cons, List.length_append] at this ⊢
        omega
    exact this _ _ hnd (fun x hx => by rw [mem_unionT]; exact List.mem_append.1 hx)
set_option maxRecDepth 100000 in
set_option maxHeartbeats 4000000 in
theorem walk_SetsTwo {w : World} {v u : Value} {xs ys : List Tx} (h : RowAt w.heap.size w encS v xs) (hu : RowAt w.heap.size w encS u ys) (hb : bigs xs) (hb2 : bigs ys) :
    Calls Try.prog 4 #[v, u] w (SaysW true w) := by
  have H := Lib.hid h
  have HU := Lib.hid hu
  obtain ⟨p, cap, rfl, -, -⟩ := h
  obtain ⟨p2, cap2, rfl, -, -⟩ := hu
  have HA := awake_any
  by_cases hbig : 200 < xs.length ∨ 200 < ys.length
  · by_cases h1 : 200 < xs.length
    · have h1' : (200 : Int) < (xs.length : Int) := by omega
      generalize xs.length = len at *
      generalize ys.length = len2 at *
      clear hbig
      go_enter Try.func4, Try.ntmps4
      go_wp2_with fail
      refine (HA _).mono ?_; rintro e w1 ⟨rfl, hB⟩
      go_wp2
      go_ret
      exact ⟨rfl, hB⟩
    · have h1' : ¬ (200 : Int) < (xs.length : Int) := by omega
      have h2' : (200 : Int) < (ys.length : Int) := by omega
      generalize xs.length = len at *
      generalize ys.length = len2 at *
      clear hbig
      go_enter Try.func4, Try.ntmps4
      go_wp2_with fail
      refine (HA _).mono ?_; rintro e w1 ⟨rfl, hB⟩
      go_wp2
      go_ret
      exact ⟨rfl, hB⟩
  · have h1' : ¬ (200 : Int) < (xs.length : Int) := by omega
    have h2' : ¬ (200 : Int) < (ys.length : Int) := by omega
    have hl1 : xs.length ≤ 200 := by omega
    have hl2 : ys.length ≤ 200 := by omega
    have HN := new_any w _ xs H.out hb (by omega)
    have HN2 := fun w' hB => new_any w' _ ys (HU.out.later hB) hb2 (by omega)
    have HO := fun w' hB => refof_any (H.out.later (w' := w') hB) (by omega)
    have HO2 := fun w' hB => refof_any (HU.out.later (w' := w') hB) (by omega)
    have hol := ofT_len xs
    have hol2 := ofT_len ys
    have hrx := Lib.hid (rises_ofT xs)
    have hry := Lib.hid (rises_ofT ys)
    obtain ⟨i0, hi0, hz0, hz1, hz2⟩ := info_parts infoStr
    have hpos : 0 < 1 := by decide
    generalize hlx : xs.length = len at *
    generalize hly : ys.length = len2 at *
    clear hlx hly
    generalize ofT xs = aa at *
    generalize ofT ys = bb at *
    clear hbig hb hb2
    have hlm : (minusT aa bb).length ≤ aa.length := List.length_filter_le _ _
    go_enter Try.func4, Try.ntmps4
    go_wp2_with fail
    refine (HN).mono ?_; rintro e W1 ⟨s, sm, rfl, hs, hs1, hs2, hB⟩
    have hT1 := hB
    clear hB
    go_wp2_with fail
    refine (HN2 _ hT1).mono ?_; rintro e W2 ⟨t, tm, rfl, ht, ht1, ht2, hB⟩
    have hs := hs.below hB
    have hT2 := hT1.trans (hB.mono hT1.size)
    clear hB hT1
    go_wp2_with fail
    refine (HO _ hT2).mono ?_; rintro e W3 ⟨va, rfl, ha, hB⟩
    have hs := hs.below hB
    have ht := ht.below hB
    have hT3 := hT2.trans (hB.mono hT2.size)
    clear hB hT2
    go_wp2_with fail
    refine (HO2 _ hT3).mono ?_; rintro e W4 ⟨vb, rfl, hb, hB⟩
    have hs := hs.below hB
    have ht := ht.below hB
    have ha := ha.later hB
    have hT4 := hT3.trans (hB.mono hT3.size)
    clear hB hT3
    go_wp2_with (first
      | (at_builtin; refine wpList_append_row rfl _ _ 22 rfl W4.heap.size 9 i0 _ 16 Try.underlying22 hi0 hz0 hz1 hz2 rfl hpos encS_len encS_one [] (v := .slice none 0 0) rfl (World.ownsRow_nil _ _ _ _) rfl ha ?_ ?_ (Nat.le_refl _) ?_; (simp; unfold maxLen; omega); (simp; omega); intro v3 w3 ho3 hg3; have hb3 := hb.later (grown_none hg3))
      | (at_builtin; refine wpList_append_row rfl _ _ 22 rfl W4.heap.size 9 i0 _ 16 Try.underlying22 hi0 hz0 hz1 hz2 rfl hpos encS_len encS_one ([] ++ aa) (v := v3) rfl ho3 rfl hb3 ?_ ?_ hg3.size ?_; (simp; unfold maxLen; omega); (simp; omega); intro v4 W5 ho4 hg4; have hB : Below W4.heap.size W4 W5 := (grown_none hg3).trans (own_below hg3.size ho3 hg4))
      | (go_at_call 19; fail))
    have hboth := RowAt.of_owns encS_len (by omega) ho4
    rw [List.nil_append] at hboth
    clear ho3 hg3 hb3 ho4 hg4
    have ha := ha.later hB
    have hb := hb.later hB
    have hs := hs.below hB
    have ht := ht.below hB
    have hT5 := hT4.trans (hB.mono hT4.size)
    clear hB hT4
    skip
    refine (union_some hs ht (by omega)).mono ?_; rintro e W6 ⟨u, um, rfl, hu, -, -, hB⟩
    have hs := hs.below hB
    have ht := ht.below hB
    have ha := ha.later hB
    have hb := hb.later hB
    have hboth := hboth.later hB
    have hT6 := hT5.trans (hB.mono hT5.size)
    clear hB hT5
    go_wp2_with fail
    refine (list_any hu (by omega)).mono ?_; rintro e W7 ⟨vu, rfl, hvu, hB⟩
    have hs := hs.below hB
    have ht := ht.below hB
    have ha := ha.later hB
    have hb := hb.later hB
    have hboth := hboth.later hB
    have hT7 := hT6.trans (hB.mono hT6.size)
    clear hB hT6
    go_wp2_with fail
    refine (refof_any hboth (by simp; omega)).mono ?_; rintro e W8 ⟨vo, rfl, hvo, hB⟩
    have hs := hs.below hB
    have ht := ht.below hB
    have ha := ha.later hB
    have hb := hb.later hB
    have hvu := hvu.later hB
    have hT8 := hT7.trans (hB.mono hT7.size)
    clear hB hT7
    have e1 : ofT (aa ++ bb) = unionT aa bb := rfl
    rw [e1] at hvo
    have HT := texts_any hvu hvo (by have := ofT_len (aa ++ bb); simp at this; rw [e1] at this; omega) (by have := ofT_len (aa ++ bb); simp at this; rw [e1] at this; omega)
    rw [decide_eq_true rfl] at HT
    clear hvu hvo e1
    go_wp2_with fail
    refine (HT).mono ?_; rintro e W9 ⟨rfl, hB⟩
    have hs := hs.below hB
    have ht := ht.below hB
    have ha := ha.later hB
    have hb := hb.later hB
    have hT9 := hT8.trans (hB.mono hT8.size)
    clear hB hT8
    clear HT
    go_wp2_with fail
    refine (minus_some hs ht (by omega)).mono ?_; rintro e W10 ⟨m, mm, rfl, hm, -, -, hB⟩
    have hs := hs.below hB
    have ht := ht.below hB
    have ha := ha.later hB
    have hb := hb.later hB
    have hT10 := hT9.trans (hB.mono hT9.size)
    clear hB hT9
    go_wp2_with fail
    refine (list_any hm (by omega)).mono ?_; rintro e W11 ⟨vu, rfl, hvu, hB⟩
    have hs := hs.below hB
    have ht := ht.below hB
    have ha := ha.later hB
    have hb := hb.later hB
    have hT11 := hT10.trans (hB.mono hT10.size)
    clear hB hT10
    go_wp2_with fail
    refine (refminus_any ha hb (by omega) (by omega)).mono ?_; rintro e W12 ⟨vo, rfl, hvo, hB⟩
    have hs := hs.below hB
    have ht := ht.below hB
    have ha := ha.later hB
    have hb := hb.later hB
    have hvu := hvu.later hB
    have hT12 := hT11.trans (hB.mono hT11.size)
    clear hB hT11
    have HT := texts_any hvu hvo (by omega) (by omega)
    rw [decide_eq_true rfl] at HT
    clear hvu hvo
    go_wp2_with fail
    refine (HT).mono ?_; rintro e W13 ⟨rfl, hB⟩
    have hs := hs.below hB
    have ht := ht.below hB
    have ha := ha.later hB
    have hb := hb.later hB
    have hT13 := hT12.trans (hB.mono hT12.size)
    clear hB hT12
    clear HT
    have HW := within_of (minus_some hs ht (by omega))
    rw [← len_zero] at HW
    go_wp2_with fail
    refine (HW).mono ?_; rintro e W14 ⟨rfl, hB⟩
    have hs := hs.below hB
    have ht := ht.below hB
    have ha := ha.later hB
    have hb := hb.later hB
    have hT14 := hT13.trans (hB.mono hT13.size)
    clear hB hT13
    clear HW
    go_wp2_with fail
    refine (refminus_any ha hb (by omega) (by omega)).mono ?_; rintro e W15 ⟨vo, rfl, hvo, hB⟩
    have hs := hs.below hB
    have ht := ht.below hB
    have ha := ha.later hB
    have hb := hb.later hB
    have hT15 := hT14.trans (hB.mono hT14.size)
    clear hB hT14
    obtain ⟨po, co, rfl, -, -⟩ := hvo
    go_wp2_with fail
    refine (list_any hs (by omega)).mono ?_; rintro e W16 ⟨vu, rfl, hvu, hB⟩
    have hs := hs.below hB
    have ht := ht.below hB
    have ha := ha.later hB
    have hb := hb.later hB
    have hT16 := hT15.trans (hB.mono hT15.size)
    clear hB hT15
    have HT := texts_any hvu ha (by omega) (by omega)
    rw [decide_eq_true rfl] at HT
    clear hvu
    go_wp2_with fail
    refine (HT).mono ?_; rintro e W17 ⟨rfl, hB⟩
    have hs := hs.below hB
    have ht := ht.below hB
    have ha := ha.later hB
    have hb := hb.later hB
    have hT17 := hT16.trans (hB.mono hT16.size)
    clear hB hT16
    clear HT
    go_wp2_with fail
    refine (list_any ht (by omega)).mono ?_; rintro e W18 ⟨vu, rfl, hvu, hB⟩
    have hs := hs.below hB
    have ht := ht.below hB
    have ha := ha.later hB
    have hb := hb.later hB
    have hT18 := hT17.trans (hB.mono hT17.size)
    clear hB hT17
    have HT := texts_any hvu hb (by omega) (by omega)
    rw [decide_eq_true rfl] at HT
    clear hvu
    go_wp2_with fail
    refine (HT).mono ?_; rintro e W19 ⟨rfl, hB⟩
    have hs := hs.below hB
    have ht := ht.below hB
    have ha := ha.later hB
    have hb := hb.later hB
    have hT19 := hT18.trans (hB.mono hT18.size)
    clear hB hT18
    clear HT
    go_wp2_with fail
    refine (HA _).mono ?_; rintro e wz ⟨rfl, hB⟩
    go_wp2
    go_ret
    exact ⟨rfl, hT19.trans (hB.mono hT19.size)⟩
set_option maxRecDepth 100000 in
set_option maxHeartbeats 4000000 in
theorem walk_SetsLaws {w : World} {v u : Value} {xs ys : List Tx} (h : RowAt w.heap.size w encS v xs) (hu : RowAt w.heap.size w encS u ys) (hb : bigs xs) (hb2 : bigs ys) :
    Calls Try.prog 5 #[v, u] w (SaysW true w) := by
  have H := Lib.hid h
  have HU := Lib.hid hu
  obtain ⟨p, cap, rfl, -, -⟩ := h
  obtain ⟨p2, cap2, rfl, -, -⟩ := hu
  have HA := awake_any
  by_cases hbig : 200 < xs.length ∨ 200 < ys.length
  · by_cases h1 : 200 < xs.length
    · have h1' : (200 : Int) < (xs.length : Int) := by omega
      generalize xs.length = len at *
      generalize ys.length = len2 at *
      clear hbig
      go_enter Try.func5, Try.ntmps5
      go_wp2_with fail
      refine (HA _).mono ?_; rintro e w1 ⟨rfl, hB⟩
      go_wp2
      go_ret
      exact ⟨rfl, hB⟩
    · have h1' : ¬ (200 : Int) < (xs.length : Int) := by omega
      have h2' : (200 : Int) < (ys.length : Int) := by omega
      generalize xs.length = len at *
      generalize ys.length = len2 at *
      clear hbig
      go_enter Try.func5, Try.ntmps5
      go_wp2_with fail
      refine (HA _).mono ?_; rintro e w1 ⟨rfl, hB⟩
      go_wp2
      go_ret
      exact ⟨rfl, hB⟩
  · have h1' : ¬ (200 : Int) < (xs.length : Int) := by omega
    have h2' : ¬ (200 : Int) < (ys.length : Int) := by omega
    have hl1 : xs.length ≤ 200 := by omega
    have hl2 : ys.length ≤ 200 := by omega
    have HN := new_any w _ xs H.out hb (by omega)
    have HN2 := fun w' hB => new_any w' _ ys (HU.out.later hB) hb2 (by omega)
    have hol := ofT_len xs
    have hol2 := ofT_len ys
    have hrx := rises_ofT xs
    have hry := rises_ofT ys
    generalize hlx : xs.length = len at *
    generalize hly : ys.length = len2 at *
    clear hlx hly
    generalize ofT xs = aa at *
    generalize ofT ys = bb at *
    clear hbig hb hb2
    have hlm : (minusT aa bb).length ≤ aa.length := List.length_filter_le _ _
    have hlu : (unionT aa bb).length ≤ aa.length + bb.length := by have := ofT_len (aa ++ bb); rw [List.length_append] at this; exact this
    have HU1 : Hid (minusT aa (unionT aa bb) = []) := minus_sub (rises_unionT _ _) fun x hx => (mem_unionT _ _ _).2 (.inl hx)
    have HU2 : Hid (minusT bb (unionT aa bb) = []) := minus_sub (rises_unionT _ _) fun x hx => (mem_unionT _ _ _).2 (.inr hx)
    have HU3 : Hid (minusT (minusT aa bb) aa = []) := minus_sub hrx fun x hx => ((mem_minusT hry x).1 hx).1
    have HU4 : Hid (minusT (minusT aa bb) bb = minusT aa bb) := minus_twice
    have HU5 : Hid (unionT (minusT aa bb) bb = unionT aa bb) := union_minus hry
    have HU6 : Hid ((unionT aa bb).length = (minusT aa bb).length + bb.length) := union_len hrx hry
    clear hrx hry
    go_enter Try.func5, Try.ntmps5
    go_wp2_with fail
    refine (HN).mono ?_; rintro e W1 ⟨s, sm, rfl, hs, hs1, hs2, hB⟩
    have hT1 := hB
    clear hB
    go_wp2_with fail
    refine (HN2 _ hT1).mono ?_; rintro e W2 ⟨t, tm, rfl, ht, ht1, ht2, hB⟩
    have hs := hs.below hB
    have hT2 := hT1.trans (hB.mono hT1.size)
    clear hB hT1
    go_wp2_with fail
    refine (union_some hs ht (by omega)).mono ?_; rintro e W3 ⟨u, um, rfl, hu, -, -, hB⟩
    have hs := hs.below hB
    have ht := ht.below hB
    have hT3 := hT2.trans (hB.mono hT2.size)
    clear hB hT2
    go_wp2_with fail
    refine (minus_some hs ht (by omega)).mono ?_; rintro e W4 ⟨d, dm, rfl, hd, -, -, hB⟩
    have hs := hs.below hB
    have ht := ht.below hB
    have hu := hu.below hB
    have hT4 := hT3.trans (hB.mono hT3.size)
    clear hB hT3
    go_wp2_with fail
    refine (within_to hs hu (by omega) true (by rw [HU1.out]; rfl)).mono ?_; rintro e W5 ⟨rfl, hB⟩
    have hs := hs.below hB
    have ht := ht.below hB
    have hu := hu.below hB
    have hd := hd.below hB
    have hT5 := hT4.trans (hB.mono hT4.size)
    clear hB hT4
    go_wp2_with fail
    refine (within_to ht hu (by omega) true (by rw [HU2.out]; rfl)).mono ?_; rintro e W6 ⟨rfl, hB⟩
    have hs := hs.below hB
    have ht := ht.below hB
    have hu := hu.below hB
    have hd := hd.below hB
    have hT6 := hT5.trans (hB.mono hT5.size)
    clear hB hT5
    go_wp2_with fail
    refine (within_to hd hs (by omega) true (by rw [HU3.out]; rfl)).mono ?_; rintro e W7 ⟨rfl, hB⟩
    have hs := hs.below hB
    have ht := ht.below hB
    have hu := hu.below hB
    have hd := hd.below hB
    have hT7 := hT6.trans (hB.mono hT6.size)
    clear hB hT6
    have HM := minus_some hd ht (by omega)
    rw [HU4.out] at HM
    go_wp2_with fail
    refine (HM).mono ?_; rintro e W8 ⟨dd, ddm, rfl, hdd, -, -, hB⟩
    have hs := hs.below hB
    have ht := ht.below hB
    have hu := hu.below hB
    have hd := hd.below hB
    have hT8 := hT7.trans (hB.mono hT7.size)
    clear hB hT7
    clear HM
    go_wp2_with fail
    refine (len_any hdd).mono ?_; rintro e _w ⟨rfl, rfl⟩
    go_wp2_with fail
    refine (len_any hd).mono ?_; rintro e _w ⟨rfl, rfl⟩
    have HM := union_some hd ht (by omega)
    rw [HU5.out] at HM
    go_wp2_with fail
    refine (HM).mono ?_; rintro e W11 ⟨dd, ddm, rfl, hdd, -, -, hB⟩
    have hs := hs.below hB
    have ht := ht.below hB
    have hu := hu.below hB
    have hd := hd.below hB
    have hT11 := hT8.trans (hB.mono hT8.size)
    clear hB hT8
    clear HM
    go_wp2_with fail
    refine (list_any hdd (by omega)).mono ?_; rintro e W12 ⟨vu, rfl, hvu, hB⟩
    have hs := hs.below hB
    have ht := ht.below hB
    have hu := hu.below hB
    have hd := hd.below hB
    have hT12 := hT11.trans (hB.mono hT11.size)
    clear hB hT11
    go_wp2_with fail
    refine (list_any hu (by omega)).mono ?_; rintro e W13 ⟨vo, rfl, hvo, hB⟩
    have hs := hs.below hB
    have ht := ht.below hB
    have hu := hu.below hB
    have hd := hd.below hB
    have hvu := hvu.later hB
    have hT13 := hT12.trans (hB.mono hT12.size)
    clear hB hT12
    have HT := texts_any hvu hvo (by omega) (by omega)
    rw [decide_eq_true rfl] at HT
    clear hvu hvo
    go_wp2_with fail
    refine (HT).mono ?_; rintro e W14 ⟨rfl, hB⟩
    have hs := hs.below hB
    have ht := ht.below hB
    have hu := hu.below hB
    have hd := hd.below hB
    have hT14 := hT13.trans (hB.mono hT13.size)
    clear hB hT13
    clear HT
    have HL := len_any hu
    rw [HU6.out] at HL
    go_wp2_with fail
    refine (HL).mono ?_; rintro e _w ⟨rfl, rfl⟩
    go_wp2_with fail
    refine (len_any hd).mono ?_; rintro e _w ⟨rfl, rfl⟩
    go_wp2_with fail
    refine (len_any ht).mono ?_; rintro e _w ⟨rfl, rfl⟩
    go_wp2_with fail
    refine (HA _).mono ?_; rintro e wz ⟨rfl, hB⟩
    go_wp2
    go_ret
    exact ⟨rfl, hT14.trans (hB.mono hT14.size)⟩
end Go.Proofs.Ytjoimepehcebaaa
