/- The document's side: marks. -/
import Derived.Test.YtbkiamecdangpaaDoorGraOrder
import Derived.Deep.LoopGhost
import Derived.Deep.OwnRows
set_option linter.unusedVariables false
set_option linter.unusedSimpArgs false
namespace Go.Proofs.YtbkiamecdangpaaDoor.N13
open Go.RowKit

/-- a row of n bools in block b -/
def BoolsAt (w : World) (b n : Nat) (m : Nat → Bool) : Prop := ∃ cs, Blk w b cs 4 ∧ ∀ k, k < n → cs[k]? = some (.bool (m k))
theorem info_bool : (Tryd.prog.info? 4).map (fun i => (i.zero, i.size, i.bytes)) = some (some (.bool false), 1, 1) := by kernel_rfl
theorem make_bools (n : Nat) (hn : n ≤ 1000) (w : World) : ∃ cs, (Instr.makeSlice 56 (.int .i64 (n : Int)) (.int .i64 (n : Int))).run Tryd.prog w = .ok (.slice (some ⟨w.heap.size, 0, none⟩) n n) (w.alloc (.cells cs 4)) ∧ cs = madeCells #[.bool false] n :=
  ⟨_, run_make_row' 56 4 (.bool false) 1 Tryd.underlying56 info_bool rfl .i64 .i64 n (by omega) (by omega) w, rfl⟩
theorem made_bools (w : World) (n : Nat) : BoolsAt (w.alloc (.cells (madeCells #[.bool false] n) 4)) w.heap.size n fun _ => false := by
  refine ⟨_, Blk.new w _ _, fun k hk => ?_⟩
  rw [made_cell _ _ _ hk]
  simp [Nat.mod_one]
section
variable {w w' : World} {b n : Nat} {m : Nat → Bool} {v : Value} {E : List Ed}
theorem BoolsAt.lt (h : BoolsAt w b n m) : b < w.heap.size := by obtain ⟨_, h, _⟩ := h; exact h.lt
theorem BoolsAt.cell (h : BoolsAt w b n m) {k : Nat} (hk : k < n) : w.cell? ⟨b, k, none⟩ = some (.bool (m k)) := by
  obtain ⟨_, h, hc⟩ := h
  rw [h.cell]; exact hc k hk
theorem BoolsAt.frozen (h : BoolsAt w b n m) (k : Nat) : w.frozen? ⟨b, k, none⟩ = false := by obtain ⟨_, h, _⟩ := h; exact h.frozen k
theorem BoolsAt.same (h : BoolsAt w b n m) (e : w'.heap[b]? = w.heap[b]?) : BoolsAt w' b n m := by
  obtain ⟨cs, h, hc⟩ := h
  exact ⟨cs, e.trans h, hc⟩
theorem BoolsAt.later (h : BoolsAt w b n m) (hB : Below w.heap.size w w') : BoolsAt w' b n m := h.same (hB.block b h.lt)
theorem BoolsAt.congr (h : BoolsAt w b n m) {m' : Nat → Bool} (e : ∀ k, k < n → m k = m' k) : BoolsAt w b n m' := by
  obtain ⟨cs, h, hc⟩ := h
  exact ⟨cs, h, fun k hk => by rw [hc k hk, e k hk]⟩
theorem BoolsAt.set (h : BoolsAt w b n m) (y : Nat) : BoolsAt (w.setCell ⟨b, y, none⟩ (.bool true)) b n (fun z => m z || z == y) := by
  obtain ⟨cs, h, hc⟩ := h
  refine ⟨_, h.set y _, fun k hk => ?_⟩
  have hs := (Array.getElem?_eq_some_iff.1 (hc k hk)).1
  rw [Array.getElem?_setIfInBounds]
  by_cases e : y = k
  · subst e; rw [if_pos rfl, if_pos hs]; simp
  · rw [if_neg e, hc k hk]
    have : (k == y) = false := by rw [beq_eq_false_iff_ne]; exact fun q => e q.symm
    show _ = some (Value.bool (m k || k == y))
    rw [this, Bool.or_false]
def putB (m : Nat → Bool) (y : Nat) : Nat → Bool := fun z => m z || z == y
theorem putB_more {y : Nat} (hy : y < n) (h : m y = false) : cnt n m < cnt n (putB m y) :=
  cnt_lt (fun x _ hx => by unfold putB; rw [hx]; rfl) hy h (by unfold putB; simp)
/-- what the rounds over the edges keep -/
structure MkSt (n : Nat) (E : List Ed) (a : Nat) (m0 : Nat → Bool) (k : Nat) (bo : Bool) (m : Nat → Bool) : Prop where
  sound : ∀ y, y < n → m y = true → Ways E a y
  still : bo = false → (∀ y, m y = m0 y) ∧ ∀ (j : Nat) (hj : j < E.length), j < k → (E[j].1 = (a : Int) ∨ m0 E[j].1.toNat = true) → m0 E[j].2.toNat = true
  more : bo = true → cnt n m0 < cnt n m
theorem MkSt.skip {a k : Nat} {m0 : Nat → Bool} {bo : Bool} (h : MkSt n E a m0 k bo m) (hk : k < E.length) (hs : bo = false → (E[k].1 = (a : Int) ∨ m0 E[k].1.toNat = true) → m0 E[k].2.toNat = true) : MkSt n E a m0 (k + 1) bo m :=
  ⟨h.sound, fun hb => ⟨(h.still hb).1, fun j hj hjk => by
    by_cases e : j = k
    · subst e; exact hs hb
    · exact (h.still hb).2 j hj (by omega)⟩, h.more⟩
theorem MkSt.hit {a k x y : Nat} {m0 : Nat → Bool} {bo : Bool} (h : MkSt n E a m0 k bo m) (he : ((x : Int), (y : Int)) ∈ E) (hx : x < n) (hy : y < n) (hm : m y = false) (hw : x = a ∨ m x = true) : MkSt n E a m0 (k + 1) true (putB m y) := by
  refine ⟨fun z hz hz2 => ?_, (by intro q; cases q), fun _ => ?_⟩
  · unfold putB at hz2
    rw [Bool.or_eq_true, beq_iff_eq] at hz2
    rcases hz2 with hz2 | rfl
    · exact h.sound z hz hz2
    · rcases hw with rfl | hw
      · exact .one he
      · exact (h.sound x hx hw).trans (.one he)
  · have h1 := putB_more hy hm
    cases bo with
    | true => have := h.more rfl; omega
    | false =>
      have e : m = m0 := funext (h.still rfl).1
      rw [← e]; exact h1
set_option maxRecDepth 100000 in
set_option maxHeartbeats 4000000 in
theorem refmarks_any {a : Nat} (h : EdAt w v E) (hl : E.length ≤ 150) (hn : n ≤ 40) (ha : a < n) (hf : Fits n E) : Calls Tryd.prog 26 #[.int .i64 n, v, .int .i64 a] w
    (fun e w' => ∃ b, e = .returned (.slice (some ⟨b, 0, none⟩) n n) ∧ w.heap.size ≤ b ∧ BoolsAt w' b n (reachP n E a) ∧ Below w.heap.size w w') := by
  have HH := Lib.hid h
  have HF := Lib.hid hf
  obtain ⟨p, cap, rfl⟩ := h.slice
  obtain ⟨cs, hmk, hcs⟩ := make_bools n (by omega) w
  have hm0 := made_bools w n
  rw [← hcs] at hm0
  have hB0 : Below w.heap.size w (w.alloc (.cells cs 4)) := (Below.refl _ _).alloc (Nat.le_refl _) _
  have hs0 : w.heap.size < (w.alloc (.cells cs 4)).heap.size := by simp
  have HEND : Hid (∀ m : Nat → Bool, (∀ y, y < n → m y = true → Ways E a y) → (∀ (j : Nat) (hj : j < E.length), (E[j].1 = (a : Int) ∨ m E[j].1.toNat = true) → m E[j].2.toNat = true) → ∀ y, y < n → m y = reachP n E a y) := fun m h1 h2 y hy => by
    have ht := reach_tells hf a y ha hy
    rw [Bool.eq_iff_iff, ht]
    refine ⟨h1 y hy, fun hw => ?_⟩
    refine marks_all (m := m) (fun x z he q => ?_) hw
    obtain ⟨j, hj, e⟩ := List.getElem_of_mem he
    have := h2 j hj
    rw [e] at this
    simpa using this (by simpa using q.imp (fun e => by omega) id)
  have HC0 := Lib.hid (cnt_le n)
  clear h hf hcs
  go_enter Tryd.func26, Tryd.ntmps26
  go_wp2_with fail
  generalize w.alloc (.cells cs 4) = w1 at *
  go_loopg [8] (2 * n + 1) (fun z mo wr => ∃ (bo : Bool) (m : Nat → Bool), mo = .bool bo ∧ BoolsAt wr w.heap.size n m ∧ Below w.heap.size w wr ∧ w.heap.size < wr.heap.size ∧ Hid ((∀ y, y < n → m y = true → Ways E a y) ∧ (bo = false → ∀ (j : Nat) (hj : j < E.length), (E[j].1 = (a : Int) ∨ m E[j].1.toNat = true) → m E[j].2.toNat = true) ∧ 2 * (n - cnt n m) + (if bo = true then 1 else 0) ≤ z))
  case atStart => exact ⟨true, _, rfl, hm0, hB0, hs0, Lib.hid ⟨fun _ _ q => Bool.noConfusion q, fun q => Bool.noConfusion q, by rw [if_pos rfl]; omega⟩⟩
  case round =>
    obtain ⟨bo, m, rfl, hm, hB, hsz, HI⟩ := hrel
    cases bo with
    | false =>
      have hmE := hm.congr (HEND.out m HI.out.1 (HI.out.2.1 rfl))
      clear hm HI
      go_wp2
      go_ret
      exact ⟨_, rfl, Nat.le_refl _, hmE, hB⟩
    | true =>
      have HS0 : Hid (MkSt n E a m 0 false m) := ⟨HI.out.1, fun _ => ⟨fun _ => rfl, fun j _ hj => absurd hj (Nat.not_lt_zero _)⟩, (by intro q; cases q)⟩
      have HZ : Hid (2 * (n - cnt n m) + 1 ≤ gk) := by have := HI.out.2.2; rw [if_pos rfl] at this; exact this
      clear HI hm0 hB0 hs0
      go_wp2_with fail
      go_loopw [8, 9] (fun mo i wr => ∃ (k : Nat) (bo : Bool) (m2 : Nat → Bool), k ≤ E.length ∧ i = .int .i64 k ∧ mo = .bool bo ∧ BoolsAt wr w.heap.size n m2 ∧ Below w.heap.size w wr ∧ w.heap.size < wr.heap.size ∧ Hid (MkSt n E a m k bo m2)) (fun _ i _ => E.length - (intOf i).toNat)
      case atStart => exact ⟨0, false, m, Nat.zero_le _, rfl, rfl, hm, hB, hsz, HS0⟩
      case round =>
        obtain ⟨k, bo, m2, hk, rfl, rfl, hm, hB, hsz, HS⟩ := hrel
        by_cases hlt : k < E.length
        · obtain ⟨g, o, rfl, hg, c0, c1⟩ := (HH.out.later hB).at hlt
          have he := HF.out E[k] (List.getElem_mem hlt)
          have HMEM := Lib.hid (List.getElem_mem hlt)
          have HSK := Lib.hid (HS.out.skip hlt)
          have HST : Hid (bo = false → ∀ y, m2 y = m y) := fun q => (HS.out.still q).1
          have hltI : decide ((k : Int) < (E.length : Int)) = true := decide_eq_true (by omega)
          generalize E[k] = ed at c0 c1 HMEM he HSK
          obtain ⟨x, y⟩ := ed
          dsimp only at c0 c1 HMEM he HSK
          obtain ⟨x, rfl⟩ : ∃ z : Nat, x = (z : Int) := ⟨x.toNat, by omega⟩
          obtain ⟨y, rfl⟩ : ∃ z : Nat, y = (z : Int) := ⟨y.toNat, by omega⟩
          simp only [Int.toNat_natCast] at HSK
          have hx : x < n := by omega
          have hy : y < n := by omega
          go_upto_region 9 with fail
          have K := Blk.new wr #[.int .i64 (x : Int), .int .i64 (y : Int)] 45
          have hB2 := hB.alloc hB.size (.cells #[.int .i64 (x : Int), .int .i64 (y : Int)] 45)
          have hm2 := hm.later ((Below.refl _ _).alloc (Nat.le_refl _) (.cells #[.int .i64 (x : Int), .int .i64 (y : Int)] 45))
          have hs2 : w.heap.size < (wr.alloc (.cells #[.int .i64 (x : Int), .int .i64 (y : Int)] 45)).heap.size := by simp; omega
          generalize wr.alloc (.cells #[.int .i64 (x : Int), .int .i64 (y : Int)] 45) = w2 at *
          have k0 := K.cell 0
          have k1 := K.cell 1
          have cx := hm2.cell hx
          have cy := hm2.cell hy
          have fy := hm2.frozen y
          have HP := Lib.hid (hm2.set y)
          clear hm hB K c0 c1
          cases hmx : m2 x with
          | false =>
            rw [hmx] at cx
            cases hmy : m2 y with
            | false =>
              rw [hmy] at cy
              by_cases hxa : x = a
              · have hxI : ((x : Int) == (a : Int)) = true := by rw [beq_iff_eq]; omega
                have HS2 := Lib.hid (HS.out.hit HMEM.out hx hy hmy (.inl hxa))
                have hm3 : BoolsAt (w2.setCell ⟨w.heap.size, y, none⟩ (.bool true)) w.heap.size n (putB m2 y) := HP.out
                have hB3 := hB2.setCell (p := ⟨w.heap.size, y, none⟩) (Nat.le_refl _) (.bool true)
                have hs3 : w.heap.size < (w2.setCell ⟨w.heap.size, y, none⟩ (.bool true)).heap.size := by simp; omega
                clear HS HSK HST HP HMEM hmx hmy hm2 hxa
                go_wp2
                go_roundw
                case rel => exact ⟨k + 1, true, _, by omega, by go_num, rfl, hm3, hB3, hs3, HS2⟩
                case measure => simp [intOf]; omega
              · have hxI : ((x : Int) == (a : Int)) = false := by rw [beq_eq_false_iff_ne]; omega
                have HS2 := Lib.hid (HSK.out (fun q r => by rcases r with r | r; exact absurd (by omega) hxa; rw [← HST.out q x, hmx] at r; cases r))
                clear HS HSK HST HP HMEM hmx hmy hxa
                go_wp2
                go_roundw
                case rel => exact ⟨k + 1, bo, _, by omega, by go_num, rfl, hm2, hB2, hs2, HS2⟩
                case measure => simp [intOf]; omega
            | true =>
              rw [hmy] at cy
              by_cases hxa : x = a
              · have hxI : ((x : Int) == (a : Int)) = true := by rw [beq_iff_eq]; omega
                have HS2 := Lib.hid (HSK.out (fun q _ => by rw [← HST.out q y]; exact hmy))
                clear HS HSK HST HP HMEM hmx hmy hxa
                go_wp2
                go_roundw
                case rel => exact ⟨k + 1, bo, _, by omega, by go_num, rfl, hm2, hB2, hs2, HS2⟩
                case measure => simp [intOf]; omega
              · have hxI : ((x : Int) == (a : Int)) = false := by rw [beq_eq_false_iff_ne]; omega
                have HS2 := Lib.hid (HSK.out (fun q _ => by rw [← HST.out q y]; exact hmy))
                clear HS HSK HST HP HMEM hmx hmy hxa
                go_wp2
                go_roundw
                case rel => exact ⟨k + 1, bo, _, by omega, by go_num, rfl, hm2, hB2, hs2, HS2⟩
                case measure => simp [intOf]; omega
          | true =>
            rw [hmx] at cx
            cases hmy : m2 y with
            | false =>
              rw [hmy] at cy
              by_cases hxa : x = a
              · have hxI : ((x : Int) == (a : Int)) = true := by rw [beq_iff_eq]; omega
                have HS2 := Lib.hid (HS.out.hit HMEM.out hx hy hmy (.inl hxa))
                have hm3 : BoolsAt (w2.setCell ⟨w.heap.size, y, none⟩ (.bool true)) w.heap.size n (putB m2 y) := HP.out
                have hB3 := hB2.setCell (p := ⟨w.heap.size, y, none⟩) (Nat.le_refl _) (.bool true)
                have hs3 : w.heap.size < (w2.setCell ⟨w.heap.size, y, none⟩ (.bool true)).heap.size := by simp; omega
                clear HS HSK HST HP HMEM hmx hmy hm2 hxa
                go_wp2
                go_roundw
                case rel => exact ⟨k + 1, true, _, by omega, by go_num, rfl, hm3, hB3, hs3, HS2⟩
                case measure => simp [intOf]; omega
              · have hxI : ((x : Int) == (a : Int)) = false := by rw [beq_eq_false_iff_ne]; omega
                have HS2 := Lib.hid (HS.out.hit HMEM.out hx hy hmy (.inr hmx))
                have hm3 : BoolsAt (w2.setCell ⟨w.heap.size, y, none⟩ (.bool true)) w.heap.size n (putB m2 y) := HP.out
                have hB3 := hB2.setCell (p := ⟨w.heap.size, y, none⟩) (Nat.le_refl _) (.bool true)
                have hs3 : w.heap.size < (w2.setCell ⟨w.heap.size, y, none⟩ (.bool true)).heap.size := by simp; omega
                clear HS HSK HST HP HMEM hmx hmy hm2 hxa
                go_wp2
                go_roundw
                case rel => exact ⟨k + 1, true, _, by omega, by go_num, rfl, hm3, hB3, hs3, HS2⟩
                case measure => simp [intOf]; omega
            | true =>
              rw [hmy] at cy
              by_cases hxa : x = a
              · have hxI : ((x : Int) == (a : Int)) = true := by rw [beq_iff_eq]; omega
                have HS2 := Lib.hid (HSK.out (fun q _ => by rw [← HST.out q y]; exact hmy))
                clear HS HSK HST HP HMEM hmx hmy hxa
                go_wp2
                go_roundw
                case rel => exact ⟨k + 1, bo, _, by omega, by go_num, rfl, hm2, hB2, hs2, HS2⟩
                case measure => simp [intOf]; omega
              · have hxI : ((x : Int) == (a : Int)) = false := by rw [beq_eq_false_iff_ne]; omega
                have HS2 := Lib.hid (HSK.out (fun q _ => by rw [← HST.out q y]; exact hmy))
                clear HS HSK HST HP HMEM hmx hmy hxa
                go_wp2
                go_roundw
                case rel => exact ⟨k + 1, bo, _, by omega, by go_num, rfl, hm2, hB2, hs2, HS2⟩
                case measure => simp [intOf]; omega
        · have e : k = E.length := by omega
          subst e
          have hnl : ¬ (E.length : Int) < (E.length : Int) := by omega
          have HN : Hid ((∀ y, y < n → m2 y = true → Ways E a y) ∧ (bo = false → ∀ (j : Nat) (hj : j < E.length), (E[j].1 = (a : Int) ∨ m2 E[j].1.toNat = true) → m2 E[j].2.toNat = true) ∧ 2 * (n - cnt n m2) + (if bo = true then 1 else 0) < gk) := by
            refine ⟨HS.out.sound, fun q => ?_, ?_⟩
            · have h1 := HS.out.still q
              have e : m2 = m := funext h1.1
              rw [e]
              exact fun j hj => h1.2 j hj hj
            · have h3 := HZ.out
              cases bo with
              | false =>
                have e : m2 = m := funext (HS.out.still rfl).1
                rw [e]; simp; omega
              | true =>
                have h1 := HS.out.more rfl
                have h2 := HC0.out m2
                simp; omega
          clear HS HZ HS0
          go_wp2
          go_roundg (2 * (n - cnt n m2) + (if bo = true then 1 else 0))
          case measure => exact HN.out.2.2
          case rel => exact ⟨bo, m2, rfl, hm, hB, hsz, Lib.hid ⟨HN.out.1, HN.out.2.1, Nat.le_refl _⟩⟩
end
end Go.Proofs.YtbkiamecdangpaaDoor.N13
