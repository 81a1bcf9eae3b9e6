/- Groups. -/
import Derived.Test.YtbkiamecdangpaaDoorGraRows
import Derived.Deep.Cut
import Derived.Deep.Cut
set_option linter.unusedVariables false
set_option linter.unusedSimpArgs false
namespace Go.Proofs.YtbkiamecdangpaaDoor.N13
open Go.RowKit

section
variable {w w' : World} {v : Value} {E : List Ed} {n : Nat}
theorem chk_fits (hn : n ≤ 1000) (hf : Fits n E) : chkP n E = 0 :=
  chk_ok ⟨by omega, by omega⟩ fun k hk => by
    have := hf _ (List.getElem_mem hk)
    unfold edOk
    exact decide_eq_true this
theorem chk_cases (m : Int) (E : List Ed) : (chkP m E = 1) ∨ (chkP m E = 0 ∧ ∃ n : Nat, m = n ∧ n ≤ 1000 ∧ Fits n E) := by
  unfold chkP
  by_cases h : okP m E = true
  · refine .inr ⟨by rw [if_pos h], ?_⟩
    unfold okP at h
    rw [Bool.and_eq_true, decide_eq_true_eq, List.all_eq_true] at h
    refine ⟨m.toNat, by omega, by omega, fun e he => ?_⟩
    have := h.2 e he
    unfold edOk at this
    rw [decide_eq_true_eq] at this
    omega
  · exact .inl (by rw [if_neg h])
/-- the marks of some, one by one -/
def foldS (D : Ms) (xs : List Nat) : Ms := xs.foldl (fun D x => setM D 0 x) D
theorem fold_nil (D : Ms) : foldS D [] = D := rfl
theorem fold_snoc (D : Ms) (xs : List Nat) (x : Nat) : foldS D (xs ++ [x]) = setM (foldS D xs) 0 x := by unfold foldS; rw [List.foldl_append]; rfl
theorem fold_take (D : Ms) (xs : List Nat) (k : Nat) (hk : k < xs.length) : foldS D (xs.take (k + 1)) = setM (foldS D (xs.take k)) 0 xs[k] := by
  rw [List.take_succ_eq_append_getElem hk, fold_snoc]
theorem fold_bit (xs : List Nat) : ∀ (D : Ms) (y : Nat), (foldS D xs 0).testBit y = ((D 0).testBit y || xs.contains y) := by
  induction xs with
  | nil => intro D y; simp [foldS]
  | cons x t ih =>
    intro D y
    have e : foldS D (x :: t) = foldS (setM D 0 x) t := rfl
    have h := set_bit D 0 x 0 y
    unfold bitR at h
    rw [e, ih, h, List.contains_cons]
    cases (D 0).testBit y <;> cases (y == x) <;> simp
theorem fold_mark (D : Ms) (xs : List Nat) : (foldS D xs 0).testBit = markP (D 0).testBit xs := by
  funext y
  rw [fold_bit]; rfl
theorem fold_lt (xs : List Nat) (hx : ∀ x ∈ xs, x < 64) : ∀ (D : Ms), (∀ a, D a < 18446744073709551616) → ∀ a, foldS D xs a < 18446744073709551616 := by
  induction xs with
  | nil => intro D h; exact h
  | cons x t ih =>
    intro D h
    refine ih (fun y hy => hx y (List.mem_cons_of_mem _ hy)) (setM D 0 x) fun a => ?_
    unfold setM
    split
    · have h1 : D a < 2 ^ 64 := h a
      have h2 : 2 ^ x < 2 ^ 64 := Nat.pow_lt_pow_right (by decide) (hx x List.mem_cons_self)
      exact Nat.or_lt_two_pow h1 h2
    · exact h a
theorem groups_next {R : Nat → Nat → Bool} {f : Nat} {d : Nat → Bool} {u : Nat} (h : nextP n R d = some u) : groupsP n R (f + 1) d = groupP n R u :: groupsP n R f (markP d (groupP n R u)) := by
  unfold groupsP
  rw [h]
  cases f <;> rfl
theorem groups_stop {R : Nat → Nat → Bool} {f : Nat} {d : Nat → Bool} (h : nextP n R d = none) : groupsP n R f d = [] := by
  cases f with
  | zero => rfl
  | succ f => unfold groupsP; rw [h]

set_option maxRecDepth 100000 in
set_option maxHeartbeats 4000000 in
theorem groups_bad {m : Int} (h : EdAt w v E) (hl : E.length ≤ 150) (hc : chkP m E = 1) : Calls Tryd.prog 9 #[.int .i64 m, v] w (fun e w' => e = .returned (.tuple #[.slice none 0 0, .int .i64 1]) ∧ Below w.heap.size w w') := by
  have HC := check_any (n := m) h hl
  rw [hc] at HC
  clear h hc hl
  go_enter Tryd.func9, Tryd.ntmps9
  go_wp2_with fail
  refine HC.mono ?_; rintro e w2 ⟨rfl, hB⟩
  clear HC
  go_wp2
  go_ret2
  exact ⟨rfl, hB⟩
set_option maxRecDepth 100000 in
set_option maxHeartbeats 4000000 in
theorem groups_any (h : EdAt w v E) (hl : E.length ≤ 150) (hn : n ≤ 40) (hf : Fits n E) (hT : Tabs w) : Calls Tryd.prog 9 #[.int .i64 n, v] w
    (fun e w' => ∃ q, e = .returned (.tuple #[q, .int .i64 0]) ∧ RowsI w' q (allP n (reachP n E)) ∧ Below w.heap.size w w') := by
  have HC := check_any (n := (n : Int)) h hl
  rw [chk_fits (by omega) hf] at HC
  have HCL := Lib.hid (fun (W : World) (hB : Below w.heap.size w W) => closure_any (h.later hB) hl hn hf)
  have HT := Lib.hid hT
  have hMl : ∀ a, closM n E a < 18446744073709551616 := (small_clos hf).lt (by omega)
  have hsm := small_clos hf
  rw [show reachP n E = bitR (closM n E) from rfl]
  generalize closM n E = M at *
  have HML := Lib.hid hMl
  have HSM := Lib.hid hsm
  obtain ⟨i0, hi, hz0, hz1, hz2⟩ := info_parts info_ints
  clear h hf hT hl hMl hsm
  go_enter Tryd.func9, Tryd.ntmps9
  go_wp2_with fail
  refine HC.mono ?_; rintro e w2 ⟨rfl, hB⟩
  clear HC
  have HC := HCL.out w2 hB
  go_wp2_with fail
  refine HC.mono ?_; rintro e w3 ⟨g, rfl, hg, hm, hB2⟩
  clear HC HCL
  have hs2 := hB.size
  have hs3 := hB2.size
  have hB := btr hB hB2
  clear hB2
  go_upto_region 7 with fail
  obtain ⟨w4, hw4⟩ : ∃ x, x = w3.alloc (.cells #[.int .u64 0, .int .u64 0, .int .u64 0, .int .u64 0, .int .u64 0, .int .u64 0, .int .u64 0, .int .u64 0, .int .u64 0, .int .u64 0, .int .u64 0, .int .u64 0, .int .u64 0, .int .u64 0, .int .u64 0, .int .u64 0] 50) := ⟨_, rfl⟩
  rw [← hw4]
  have hB4 : Below w3.heap.size w3 w4 := by rw [hw4]; exact (Below.refl _ _).alloc (Nat.le_refl _) _
  have hd : MarksAt w4 w3.heap.size 1 fun _ => 0 := by
    rw [hw4]
    have e : madeCells (Array.replicate 16 (.int .u64 0)) (1 * 16) = #[.int .u64 0, .int .u64 0, .int .u64 0, .int .u64 0, .int .u64 0, .int .u64 0, .int .u64 0, .int .u64 0, .int .u64 0, .int .u64 0, .int .u64 0, .int .u64 0, .int .u64 0, .int .u64 0, .int .u64 0, .int .u64 0] := by kernel_rfl
    have := made_marks w3 1
    rw [e] at this
    exact this
  have hs4 : w4.heap.size = w3.heap.size + 1 := by rw [hw4]; simp
  have hm4 := hm.later hB4
  have hgl := hm.lt
  have hB5 := btr hB hB4
  clear hw4 hB4 hB hm
  generalize hgd : w3.heap.size = gd at *
  have hgd4 : gd < w4.heap.size := by omega
  clear hs4
  have HG0 : Hid (∃ d : Ms, (d 0).testBit = noneP ∧ d = fun _ => 0) := ⟨_, by funext x; simp [noneP], rfl⟩
  go_wp2_with fail
  go_loopw [8, 24] (fun u i wr => ∃ (k : Nat) (q : Value) (G : List (List Nat)) (D : Ms), k ≤ n ∧ i = .int .i64 k ∧ q = u ∧ MarksAt wr g n M ∧ MarksAt wr gd 1 D ∧ OwnR w4.heap.size q G wr ∧ Below w.heap.size w wr ∧ w4.heap.size ≤ wr.heap.size ∧ (∀ a, D a < 18446744073709551616) ∧ G.length = k ∧
      Hid (allP n (bitR M) = G ++ groupsP n (bitR M) (n - k) (D 0).testBit)) (fun _ i _ => n - (intOf i).toNat)
  case atStart =>
    refine ⟨0, _, [], fun _ => 0, by omega, rfl, rfl, hm4, hd, OwnR.nil _ _, hB5, Nat.le_refl _, fun _ => (by decide : (0 : Nat) < 18446744073709551616), rfl, ?_⟩
    show _ = _
    obtain ⟨d, h1, h2⟩ := HG0.out
    rw [← h2, h1]; rfl
  case round =>
    obtain ⟨k, q, G, D, hk, rfl, rfl, hm, hd, hR, hB, hsz, hD, hGl, HI⟩ := hrel
    by_cases hlt : k < n
    · have hltI : decide ((k : Int) < (n : Int)) = true := decide_eq_true (by omega)
      have HN := next_any hm hd hn HML.out hD HSM.out (HT.out.later hB)
      have HIS : Hid (allP n (bitR M) = G ++ groupsP n (bitR M) ((n - (k + 1)) + 1) (D 0).testBit) := by
        show _ = _
        rw [show n - (k + 1) + 1 = n - k by omega]; exact HI.out
      cases hx : nextP n (bitR M) (D 0).testBit with
      | none =>
        have hnI : nextI n (bitR M) (D 0).testBit = -1 := by unfold nextI; rw [hx]
        rw [hnI] at HN
        have HE : Hid (allP n (bitR M) = G) := by
          show _ = _
          have := HIS.out
          rw [groups_stop hx, List.append_nil] at this
          exact this
        have hRR := hR.rows
        rw [← HE.out] at hRR
        clear HI HIS hx hnI HE hR
        go_wp2_with fail
        refine HN.mono ?_; rintro e w5 ⟨rfl, rfl⟩
        clear HN
        go_wp2
        go_ret2
        exact ⟨_, rfl, hRR, hB⟩
      | some v =>
        obtain ⟨hv, -, -⟩ := next_some hx
        have hnI : nextI n (bitR M) (D 0).testBit = (v : Int) := by unfold nextI; rw [hx]
        rw [hnI] at HN
        have hvI : ¬ (v : Int) < 0 := by omega
        have HI2 := HIS.out
        rw [groups_next hx] at HI2
        have HI3 := Lib.hid HI2
        have hGr : ∀ x ∈ groupP n (bitR M) v, x < 64 := fun x hx => by have := (mem_group.1 hx).1; omega
        have hglen : (groupP n (bitR M) v).length ≤ n := by unfold groupP; exact filter_le _ n
        clear HI HIS hx hnI HI2
        go_wp2_with fail
        refine HN.mono ?_; rintro e w5 ⟨rfl, rfl⟩
        clear HN
        have HC := group_any (w := w5) hm hv hn HML.out
        go_wp2_with fail
        refine HC.mono ?_; rintro e w6 ⟨r, rfl, hr, hB6⟩
        clear HC
        have hm := hm.later hB6
        have hd := hd.later hB6
        have hR := hR.later hB6
        have hB := btr hB hB6
        have hsz := Nat.le_trans hsz hB6.size
        clear hB6
        generalize hGG : groupP n (bitR M) v = xs at *
        clear hGG
        have HR := Lib.hid hr
        obtain ⟨rp, rc, rfl⟩ := hr.slice
        clear hr
        have hD0 := Lib.hid hD
        go_wp2_with fail
        go_loopw [37] (fun i wr => ∃ j : Nat, j ≤ xs.length ∧ i = .int .i64 j ∧ MarksAt wr g n M ∧ MarksAt wr gd 1 (foldS D (xs.take j)) ∧ OwnR w4.heap.size q G wr ∧ RowI wr (.slice rp xs.length rc) xs ∧ Below w.heap.size w wr ∧ w4.heap.size ≤ wr.heap.size) (fun i _ => xs.length - (intOf i).toNat)
        case atStart => exact ⟨0, Nat.zero_le _, rfl, hm, hd, hR, HR.out, hB, hsz⟩
        case round =>
          obtain ⟨j, hj, rfl, hm, hd, hR, hr, hB, hsz⟩ := hrel
          by_cases hjl : j < xs.length
          · have hjI : decide ((j : Int) < (xs.length : Int)) = true := decide_eq_true (by omega)
            obtain ⟨rg, rfl, hrg, hc⟩ := hr.at hjl
            have HX := Lib.hid (fold_take D xs j hjl)
            have hxj := hGr xs[j] (List.getElem_mem hjl)
            have hlt0 := fold_lt (xs.take j) (fun x hx => hGr x (List.mem_of_mem_take hx)) D hD0.out 0
            have HS := set_m hd (a := 0) (by omega) hxj hlt0 (o := 0) rfl
            generalize xs[j] = x at *
            generalize foldS D (xs.take j) = D1 at *
            go_wp2_with fail
            refine HS.mono ?_; rintro e w7 ⟨rfl, hd7, hP⟩
            clear HS
            have hm7 := hm.put hP (by omega)
            have hR7 := hR.put hd hP
            have hr7 := hr.put hd hP
            have hB7 := hP.below _ _ (by omega) hB
            have hsz7 := Nat.le_trans hsz hP.size
            rw [← HX.out] at hd7
            clear hm hd hR hr hB hsz hP
            go_wp2
            go_roundw
            case rel => exact ⟨j + 1, by omega, by go_num, hm7, hd7, hR7, hr7, hB7, hsz7⟩
            case measure => simp [intOf]; omega
          · have e : j = xs.length := by omega
            subst e
            rw [List.take_length] at hd
            have hlt1 := fold_lt xs hGr D hD0.out
            have HI4 := HI3.out
            rw [← fold_mark] at HI4
            have HI5 : Hid (allP n (bitR M) = (G ++ [xs]) ++ groupsP n (bitR M) (n - (k + 1)) (foldS D xs 0).testBit) := by show _ = _; rw [HI4]; simp
            have hnI : ¬ (xs.length : Int) < (xs.length : Int) := by omega
            clear HI3 HI4 HR
            obtain ⟨vs, hvl, hown, heach⟩ := hR
            generalize foldS D xs = D1 at *
            have hvk : vs.length < 1000 := by omega
            go_wp2_with (at_builtin; refine wpList_append_own _ rfl _ _ 25 rfl w4.heap.size 31 i0 (.slice none 0 0) 1 24 Tryd.underlying25 hi hz0 hz1 hz2 rfl (by decide) _ _ _ rfl (hown.alloc _) ⟨wr.heap.size, 0, none⟩ 1 1 [.slice rp xs.length rc] rfl rfl ?d1 ?d2 ?d3 ?d4 ?d5 ?_)
            case d2 => rfl
            case d3 => unfold maxLen; omega
            case d4 => omega
            case d5 => omega
            intro v' w1 hown' hgrow _
            have hvk2 : vs.length = k := by omega
            have R := OwnR.push hvl hown heach hr (by rw [hvk2]; exact hown') hgrow
            have hm7 := hm.past hown hgrow
            have hd7 := hd.past hown hgrow
            have hB7 : Below w.heap.size w w1 := (hB.alloc hB.size _).grown hgrow (by simp; exact Nat.le_succ_of_le hB.size) (fun k hk => by have := (hown.lt k hk).1; omega)
            have hs7 : wr.heap.size ≤ w1.heap.size := by have := hgrow.size; simp at this; omega
            have hGl2 : (G ++ [xs]).length = k + 1 := by simp [hGl]
            have hD7 : ∀ a, D1 a < 18446744073709551616 := hlt1
            clear hown' hgrow hown heach hm hd hB hr
            go_wp2
            go_roundw
            case rel => exact ⟨k + 1, _, _, D1, by omega, by go_num, rfl, hm7, hd7, R, hB7, by omega, hD7, hGl2, HI5⟩
            case measure => simp [intOf]; omega
    · have e : n - k = 0 := by omega
      have HE : Hid (allP n (bitR M) = G) := by
        show _ = _
        have := HI.out
        rw [e] at this
        rw [this, show groupsP n (bitR M) 0 (D 0).testBit = [] from rfl, List.append_nil]
      have hRR := hR.rows
      rw [← HE.out] at hRR
      clear HI HE hR
      go_wp2
      go_ret2
      exact ⟨_, rfl, hRR, hB⟩
end
end Go.Proofs.YtbkiamecdangpaaDoor.N13
