/- awake of layer 12. -/
import Derived.Test.YtjoimepehcebaaaRowTexts
namespace Go.Proofs.Ytjoimepehcebaaa
open Go.RowKit Go.Maps

theorem row_new (w : World) (ys : List Tx) (cs : Array Value) (hcs : cs.toList = ys.flatMap encS) : RowAt (w.alloc (.cells cs 9)).heap.size (w.alloc (.cells cs 9)) encS (.slice (some ⟨w.heap.size, 0, none⟩) ys.length ys.length) ys :=
  (RowAt.fresh cs 9 ys.length (Nat.le_refl _) hcs).top
theorem alloc_below (w : World) (o : Obj) : Below w.heap.size w (w.alloc o) := (Below.refl _ w).alloc (Nat.le_refl _) o
theorem texts_new {w : World} {v : Value} {xs : List Tx} (hr : RowAt w.heap.size w encS v xs) (hl : xs.length ≤ 1000000000000) (ys : List Tx) (cs : Array Value) (hcs : cs.toList = ys.flatMap encS) (hl2 : ys.length ≤ 1000000000000) (b : Bool) (hb : decide (xs = ys) = b) :
    Calls Try.prog 17 #[v, .slice (some ⟨w.heap.size, 0, none⟩) ys.length ys.length] (w.alloc (.cells cs 9)) (SaysW b (w.alloc (.cells cs 9))) := by
  subst hb
  exact texts_any (hr.later (alloc_below _ _)) (row_new w ys cs hcs) hl hl2
theorem new_const (w : World) (ys : List Tx) (cs : Array Value) (hcs : cs.toList = ys.flatMap encS) (hb : bigs ys) (hl2 : ys.length ≤ 1000000000) (zs : List Tx) (hz : ofT ys = zs) :
    Calls Try.prog 8 #[.slice (some ⟨w.heap.size, 0, none⟩) ys.length ys.length] (w.alloc (.cells cs 9)) (NewSet ys.length zs (w.alloc (.cells cs 9))) := by
  subst hz
  exact new_any _ _ _ (row_new w ys cs hcs) hb hl2
theorem add_to {w : World} {bs bm n : Nat} {xs : List Tx} (h : SetAt w bs bm n xs) (x : Tx) (hx : x.length ≤ maxLen) (hn : n < maxLen) (ys : List Tx) (b : Bool) (h1 : insT x xs = ys) (h2 : (!there x xs) = b) :
    Calls Try.prog 11 #[.pointer (some ⟨bs, 0, none⟩), .string ⟨x.toArray⟩] w (SetTo bs bm (n + 1) ys b w) := by
  subst h1 h2; exact add_any h x hx hn
theorem remove_to {w : World} {bs bm n : Nat} {xs : List Tx} (h : SetAt w bs bm n xs) (x : Tx) (hx : x.length ≤ maxLen) (ys : List Tx) (b : Bool) (h1 : delT x xs = ys) (h2 : there x xs = b) :
    Calls Try.prog 13 #[.pointer (some ⟨bs, 0, none⟩), .string ⟨x.toArray⟩] w (SetTo bs bm n ys b w) := by
  subst h1 h2; exact remove_any h x hx
theorem has_to {w : World} {bs bm n : Nat} {xs : List Tx} (h : SetAt w bs bm n xs) (x : Tx) (hx : x.length ≤ maxLen) (b : Bool) (h2 : there x xs = b) :
    Calls Try.prog 14 #[.pointer (some ⟨bs, 0, none⟩), .string ⟨x.toArray⟩] w (SaysW b w) := by
  subst h2; exact has_any h x hx
theorem len_to {w : World} {bs bm n : Nat} {xs : List Tx} (h : SetAt w bs bm n xs) (k : Int) (hk : (xs.length : Int) = k) :
    Calls Try.prog 16 #[.pointer (some ⟨bs, 0, none⟩)] w (fun e w' => e = .returned (.int .i64 k) ∧ w = w') := by
  subst hk; exact len_any h
theorem within_to {w : World} {bs bm n bt bn m : Nat} {xs ys : List Tx} (hs : SetAt w bs bm n xs) (ht : SetAt w bt bn m ys) (hl : n ≤ 1000000000) (b : Bool) (hb : decide (minusT xs ys = []) = b) :
    Calls Try.prog 22 #[.pointer (some ⟨bs, 0, none⟩), .pointer (some ⟨bt, 0, none⟩)] w (SaysW b w) := by
  subst hb; exact within_of (minus_some hs ht hl)
theorem set_apart {w w' : World} {bs bm n : Nat} {xs : List Tx} (h : SetAt w bs bm n xs) {b : Nat} (hg : w.grownBy w' (some b)) (h1 : b ≠ bs) (h2 : b ≠ bm) : SetAt w' bs bm n xs :=
  h.kept hg (fun e => h1 (by injection e)) (fun e => h2 (by injection e))

set_option maxRecDepth 100000 in
set_option maxHeartbeats 8000000 in
theorem awake_any (w : World) : Calls Try.prog 7 #[] w (SaysW true w) := by
  go_enter Try.func7, Try.ntmps7
  go_wp2_with fail
  refine (new_const w [[98], [97], [98]] _ rfl (by simp [bigs, maxLen]) (by decide) [[97], [98]] (by decide)).mono ?_; rintro e w1 ⟨s, sm, rfl, hs, hs1, hs2, hB⟩
  have hs2 : w.heap.size ≤ sm := by rw [World.size_alloc] at hs2; omega
  have hB1 := (alloc_below w _).trans (hB.mono (alloc_below w _).size)
  clear hB
  go_wp2_with fail
  refine (new_const w1 [[97], [99]] _ rfl (by simp [bigs, maxLen]) (by decide) [[97], [99]] (by decide)).mono ?_; rintro e w2 ⟨t, tm, rfl, ht, ht1, ht2, hB⟩
  have hB2 := (alloc_below w1 _).trans (hB.mono (alloc_below w1 _).size)
  have hsl := hs.lt
  have hsml := hs.own.lt
  have hs := hs.below hB2
  have hB2 := hB1.trans (hB2.mono hB1.size)
  clear hB hB1
  go_wp2_with fail
  refine (union_some hs ht (by decide)).mono ?_; rintro e w3 ⟨u, um, rfl, hu, hu1, hu2, hB⟩
  have e1 : unionT [[97], [98]] [[97], [99]] = [[97], [98], [99]] := by decide
  rw [e1] at hu
  have hs := hs.below hB
  have ht := ht.below hB
  have hB3 := hB2.trans (hB.mono hB2.size)
  clear hB hB2 e1
  go_wp2_with fail
  refine (minus_some hs ht (by decide)).mono ?_; rintro e w4 ⟨m, mm, rfl, hm, hm1, hm2, hB⟩
  have e1 : minusT [[97], [98]] [[97], [99]] = [[98]] := by decide
  rw [e1] at hm
  have hsl3 := hs.lt
  have hsml3 := hs.own.lt
  have hs := hs.below hB
  have hu := hu.below hB
  have hB4 := hB3.trans (hB.mono hB3.size)
  clear hB hB3 e1 ht
  go_wp2_with fail
  refine (list_any hs (by decide)).mono ?_; rintro e w5 ⟨v5, rfl, hr5, hB⟩
  have hs := hs.below hB
  have hu := hu.below hB
  have hm := hm.below hB
  have hB5 := hB4.trans (hB.mono hB4.size)
  clear hB hB4
  go_wp2_with fail
  refine (texts_new hr5 (by decide) [[97], [98]] _ rfl (by decide) true (by decide)).mono ?_; rintro e w6 ⟨rfl, hB⟩
  have hB := (alloc_below w5 _).trans (hB.mono (alloc_below w5 _).size)
  have hs := hs.below hB
  have hu := hu.below hB
  have hm := hm.below hB
  have hB6 := hB5.trans (hB.mono hB5.size)
  clear hB hB5 hr5
  go_wp2_with fail
  refine (list_any hu (by decide)).mono ?_; rintro e w7 ⟨v7, rfl, hr7, hB⟩
  have hs := hs.below hB
  have hm := hm.below hB
  have hB7 := hB6.trans (hB.mono hB6.size)
  clear hB hB6 hu
  go_wp2_with fail
  refine (texts_new hr7 (by decide) [[97], [98], [99]] _ rfl (by decide) true (by decide)).mono ?_; rintro e w8 ⟨rfl, hB⟩
  have hB := (alloc_below w7 _).trans (hB.mono (alloc_below w7 _).size)
  have hs := hs.below hB
  have hm := hm.below hB
  have hB8 := hB7.trans (hB.mono hB7.size)
  clear hB hB7 hr7
  go_wp2_with fail
  refine (list_any hm (by decide)).mono ?_; rintro e w9 ⟨v9, rfl, hr9, hB⟩
  have hs := hs.below hB
  have hm := hm.below hB
  have hB9 := hB8.trans (hB.mono hB8.size)
  clear hB hB8
  go_wp2_with fail
  refine (texts_new hr9 (by decide) [[98]] _ rfl (by decide) true (by decide)).mono ?_; rintro e wa ⟨rfl, hB⟩
  have hB := (alloc_below w9 _).trans (hB.mono (alloc_below w9 _).size)
  have hs := hs.below hB
  have hm := hm.below hB
  have hBa := hB9.trans (hB.mono hB9.size)
  clear hB hB9 hr9
  go_wp2_with fail
  refine (add_to hs [122] (by simp [maxLen]) (by simp [maxLen]) [[97], [98], [122]] true (by decide) (by decide)).mono ?_; rintro e wb ⟨rfl, hs, hg⟩
  have hm := set_apart hm hg (by omega) (by omega)
  have hBb := hBa.trans (below_of_grown hg hs2 hBa.size)
  clear hg hBa
  go_wp2_with fail
  refine (add_to hs [122] (by simp [maxLen]) (by simp [maxLen]) [[97], [98], [122]] false (by decide) (by decide)).mono ?_; rintro e wc ⟨rfl, hs, hg⟩
  have hm := set_apart hm hg (by omega) (by omega)
  have hBc := hBb.trans (below_of_grown hg hs2 hBb.size)
  clear hg hBb
  go_wp2_with fail
  refine (has_to hs [122] (by simp [maxLen]) true (by decide)).mono ?_; rintro e wd ⟨rfl, hB⟩
  have hs := hs.below hB
  have hm := hm.below hB
  have hBd := hBc.trans (hB.mono hBc.size)
  clear hB hBc
  go_wp2_with fail
  refine (remove_to hs [122] (by simp [maxLen]) [[97], [98]] true (by decide) (by decide)).mono ?_; rintro e we ⟨rfl, hs, hg⟩
  have hm := set_apart hm hg (by omega) (by omega)
  have hBe := hBd.trans (below_of_grown hg hs2 hBd.size)
  clear hg hBd
  go_wp2_with fail
  refine (remove_to hs [122] (by simp [maxLen]) [[97], [98]] false (by decide) (by decide)).mono ?_; rintro e wf ⟨rfl, hs, hg⟩
  have hm := set_apart hm hg (by omega) (by omega)
  have hBf := hBe.trans (below_of_grown hg hs2 hBe.size)
  clear hg hBe
  go_wp2_with fail
  refine (len_to hs 2 (by decide)).mono ?_; rintro e wg ⟨rfl, rfl⟩
  go_wp2_with fail
  refine (within_to hm hs (by decide) true (by decide)).mono ?_; rintro e wh ⟨rfl, hB⟩
  have hs := hs.below hB
  have hm := hm.below hB
  have hBh := hBf.trans (hB.mono hBf.size)
  clear hB hBf
  go_wp2_with fail
  refine (within_to hs hm (by decide) false (by decide)).mono ?_; rintro e wi ⟨rfl, hB⟩
  go_wp2
  go_ret
  exact ⟨rfl, hBh.trans (hB.mono hBh.size)⟩
end Go.Proofs.Ytjoimepehcebaaa
