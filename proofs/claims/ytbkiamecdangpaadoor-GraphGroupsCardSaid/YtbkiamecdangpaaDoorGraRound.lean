/- round, Cycle, Reach. -/
import Derived.Test.YtbkiamecdangpaaDoorGraGroups
set_option linter.unusedVariables false
set_option linter.unusedSimpArgs false
namespace Go.Proofs.YtbkiamecdangpaaDoor.N13
open Go.RowKit

/-- the first group that goes round, as a slice; nil if there is none -/
def RoundIs (w : World) (q : Value) (o : Option (List Nat)) : Prop := match o with
  | none => q = .slice none 0 0
  | some g => (∃ a l c, q = .slice (some a) l c) ∧ RowI w q g
section
variable {w w' : World} {v u : Value} {E : List Ed} {n : Nat} {G : List (List Nat)} {g : List Nat}
theorem RoundIs.row {q : Value} {o : Option (List Nat)} (h : RoundIs w q o) : RowI w q (o.getD []) := by
  cases o with
  | none => unfold RoundIs at h; subst h; exact RowI.nil w
  | some g => exact h.2
def selfAt (E : List Ed) (D : Ms) : Prop := ∀ y : Nat, (D 0).testBit y = true ↔ ((y : Int), (y : Int)) ∈ E
theorem self_none : selfAt [] fun _ => 0 := fun y => by simp
theorem self_hit {F : List Ed} {D : Ms} (h : selfAt F D) (a : Nat) : selfAt (F ++ [((a : Int), (a : Int))]) (setM D 0 a) := fun y => by
  have := set_bit D 0 a 0 y
  unfold bitR at this
  rw [this, Bool.or_eq_true, h y, List.mem_append, List.mem_singleton]
  have e : (y = a) ↔ ((y : Int) = (a : Int)) := by omega
  simp
  rw [e]
theorem self_miss {F : List Ed} {D : Ms} (h : selfAt F D) {a b : Nat} (hne : a ≠ b) : selfAt (F ++ [((a : Int), (b : Int))]) D := fun y => by
  rw [h y, List.mem_append, List.mem_singleton]
  constructor
  · exact .inl
  · rintro (e | e)
    · exact e
    · injection e with e1 e2; omega
theorem take_snoc (k : Nat) (hk : k < E.length) : E.take (k + 1) = E.take k ++ [E[k]] := List.take_succ_eq_append_getElem hk
theorem set_lt {D : Ms} (h : ∀ a, D a < 18446744073709551616) {x : Nat} (hx : x < 64) : ∀ a, setM D 0 x a < 18446744073709551616 := fun a => by
  unfold setM
  split
  · have h1 : D a < 2 ^ 64 := h a
    have h2 : 2 ^ x < 2 ^ 64 := Nat.pow_lt_pow_right (by decide) hx
    exact Nat.or_lt_two_pow h1 h2
  · exact h a
theorem find_hitL {p : List Nat → Bool} {k : Nat} (hk : k < G.length) (h : ∀ j (hj : j < G.length), j < k → p G[j] = false) (hp : p G[k] = true) : G.find? p = some G[k] := by
  rw [List.find?_eq_some_iff_getElem]
  exact ⟨hp, k, hk, rfl, fun j hj => by rw [h j (by omega) hj]; rfl⟩
theorem find_missL {p : List Nat → Bool} (h : ∀ j (hj : j < G.length), p G[j] = false) : G.find? p = none := by
  rw [List.find?_eq_none]
  intro x hx
  obtain ⟨j, hj, rfl⟩ := List.getElem_of_mem hx
  rw [h j hj]; decide

set_option maxRecDepth 100000 in
set_option maxHeartbeats 4000000 in
theorem round_any (hG : RowsI w u G) (h : EdAt w v E) (hl : E.length ≤ 150) (hn : n ≤ 40) (hf : Fits n E) (hp : ∀ g ∈ G, 0 < g.length ∧ ∀ x ∈ g, x < 64) (hGl : G.length ≤ 1000) :
    Calls Tryd.prog 28 #[u, v] w (fun e w' => ∃ q, e = .returned q ∧ RoundIs w' q (G.find? (roundP E)) ∧ Below w.heap.size w w') := by
  have HG := Lib.hid hG
  have HH := Lib.hid h
  have HF := Lib.hid hf
  have HP := Lib.hid hp
  obtain ⟨p, cap, rfl⟩ := h.slice
  obtain ⟨gp, gc, rfl⟩ := hG.slice
  clear hG h hf hp
  go_enter Tryd.func28, Tryd.ntmps28
  go_upto_region 2 with fail
  obtain ⟨w4, hw4⟩ : ∃ x, x = w.alloc (.cells #[.int .u64 0, .int .u64 0, .int .u64 0, .int .u64 0, .int .u64 0, .int .u64 0, .int .u64 0, .int .u64 0, .int .u64 0, .int .u64 0, .int .u64 0, .int .u64 0, .int .u64 0, .int .u64 0, .int .u64 0, .int .u64 0] 50) := ⟨_, rfl⟩
  rw [← hw4]
  have hB4 : Below w.heap.size w w4 := by rw [hw4]; exact (Below.refl _ _).alloc (Nat.le_refl _) _
  have hd : MarksAt w4 w.heap.size 1 fun _ => 0 := by
    rw [hw4]
    have e : madeCells (Array.replicate 16 (.int .u64 0)) (1 * 16) = #[.int .u64 0, .int .u64 0, .int .u64 0, .int .u64 0, .int .u64 0, .int .u64 0, .int .u64 0, .int .u64 0, .int .u64 0, .int .u64 0, .int .u64 0, .int .u64 0, .int .u64 0, .int .u64 0, .int .u64 0, .int .u64 0] := by kernel_rfl
    have := made_marks w 1
    rw [e] at this
    exact this
  have hs4 : w.heap.size < w4.heap.size := by rw [hw4]; simp
  clear hw4
  go_wp2_with fail
  go_loopw [12] (fun i wr => ∃ (k : Nat) (D : Ms), k ≤ E.length ∧ i = .int .i64 k ∧ MarksAt wr w.heap.size 1 D ∧ Below w.heap.size w wr ∧ w.heap.size < wr.heap.size ∧ (∀ a, D a < 18446744073709551616) ∧ Hid (selfAt (E.take k) D)) (fun i _ => E.length - (intOf i).toNat)
  case atStart => exact ⟨0, _, Nat.zero_le _, rfl, hd, hB4, hs4, fun _ => (by decide : (0 : Nat) < 18446744073709551616), Lib.hid self_none⟩
  case round =>
    obtain ⟨k, D, hk, rfl, hd, hB, hsz, hD, HS⟩ := hrel
    by_cases hlt : k < E.length
    · obtain ⟨g, o, rfl, hg, c0, c1⟩ := (HH.out.later hB).at hlt
      have HTK := Lib.hid (take_snoc k hlt)
      have he := HF.out E[k] (List.getElem_mem hlt)
      generalize E[k] = ed at c0 c1 HTK he
      obtain ⟨a, b⟩ := ed
      dsimp only at c0 c1 HTK he
      obtain ⟨a, rfl⟩ : ∃ x : Nat, a = (x : Int) := ⟨a.toNat, by omega⟩
      obtain ⟨b, rfl⟩ : ∃ x : Nat, b = (x : Int) := ⟨b.toNat, by omega⟩
      go_upto_region 5 with fail
      have K := Blk.new wr #[.int .i64 (a : Int), .int .i64 (b : Int)] 45
      have hB2 := hB.alloc hB.size (.cells #[.int .i64 (a : Int), .int .i64 (b : Int)] 45)
      have hd2 := hd.later ((Below.refl _ _).alloc (Nat.le_refl _) (.cells #[.int .i64 (a : Int), .int .i64 (b : Int)] 45))
      have hs2 : w.heap.size < (wr.alloc (.cells #[.int .i64 (a : Int), .int .i64 (b : Int)] 45)).heap.size := by simp; omega
      generalize wr.alloc (.cells #[.int .i64 (a : Int), .int .i64 (b : Int)] 45) = w2 at *
      have k0 := K.cell 0
      have k1 := K.cell 1
      by_cases hab : a = b
      · have habI : ((a : Int) == (b : Int)) = true := by rw [beq_iff_eq]; omega
        have HS2 : Hid (selfAt (E.take (k + 1)) (setM D 0 a)) := by
          show selfAt _ _
          rw [HTK.out, ← hab]; exact self_hit HS.out a
        have HC := set_m hd2 (a := 0) (by omega) (by omega : a < 64) (hD 0) (o := 0) rfl
        have hD2 := set_lt hD (by omega : a < 64)
        clear HS hab hd HTK
        go_wp2_with fail
        refine HC.mono ?_; rintro e w3 ⟨rfl, hd3, hP⟩
        clear HC
        have hB3 := hP.below _ _ (Nat.le_refl _) hB2
        have hs3 := Nat.lt_of_lt_of_le hs2 hP.size
        generalize setM D 0 a = D2 at *
        clear hd2 hB2 hB hP
        go_wp2
        go_roundw
        case rel => exact ⟨k + 1, D2, by omega, by go_num, hd3, hB3, hs3, hD2, HS2⟩
        case measure => simp [intOf]; omega
      · have habI : ((a : Int) == (b : Int)) = false := by rw [beq_eq_false_iff_ne]; omega
        have HS2 : Hid (selfAt (E.take (k + 1)) D) := by
          show selfAt _ _
          rw [HTK.out]; exact self_miss HS.out hab
        clear HS hab hd HTK hB
        go_wp2
        go_roundw
        case rel => exact ⟨k + 1, D, by omega, by go_num, hd2, hB2, hs2, hD, HS2⟩
        case measure => simp [intOf]; omega
    · have e : k = E.length := by omega
      subst e
      have HS2 : Hid (selfAt E D) := by
        have := HS.out
        rw [List.take_length] at this
        exact this
      have hnl : ¬ (E.length : Int) < (E.length : Int) := by omega
      clear HS
      have hR := HG.out.later hB
      have HR := Lib.hid hR
      clear hR
      go_wp2_with fail
      go_loopw [27] (fun i w5 => ∃ k : Nat, k ≤ G.length ∧ i = .int .i64 k ∧ wr = w5 ∧ Hid (∀ j (hj : j < G.length), j < k → roundP E G[j] = false)) (fun i _ => G.length - (intOf i).toNat)
      case atStart => exact ⟨0, Nat.zero_le _, rfl, rfl, Lib.hid fun j _ hj => absurd hj (Nat.not_lt_zero _)⟩
      case round =>
        obtain ⟨k, hk, rfl, rfl, HI⟩ := hrel
        by_cases hlt : k < G.length
        · have hltI : decide ((k : Int) < (G.length : Int)) = true := decide_eq_true (by omega)
          obtain ⟨rg, q, rfl, hrg, hc, hq⟩ := HR.out.at hlt
          obtain ⟨hpos, hx64⟩ := HP.out G[k] (List.getElem_mem hlt)
          have HIN : Hid (roundP E G[k] = false → ∀ j (hj : j < G.length), j < k + 1 → roundP E G[j] = false) := fun h j hj hjk => by
            by_cases e : j = k
            · subst e; exact h
            · exact HI.out j hj (by omega)
          have HIF : Hid (roundP E G[k] = true → G.find? (roundP E) = some G[k]) := fun h => find_hitL hlt (fun j hj hjk => HI.out j hj hjk) h
          clear HI
          generalize G[k] = xs at *
          obtain ⟨qp, qc, rfl⟩ := hq.slice
          obtain ⟨qg, rfl, hqg, hqc⟩ := hq.at hpos
          have HQ := Lib.hid hq
          by_cases h1 : 1 < xs.length
          · have h1I : (1 : Int) < (xs.length : Int) := by omega
            have HF2 : Hid (G.find? (roundP E) = some xs) := HIF.out (by unfold roundP; simp [h1])
            clear HIN HIF hq
            go_wp2
            go_ret
            exact ⟨_, rfl, by rw [HF2.out]; exact ⟨⟨_, _, _, rfl⟩, HQ.out⟩, hB⟩
          · have h1I : ¬ (1 : Int) < (xs.length : Int) := by omega
            obtain ⟨x, hxs⟩ : ∃ x, xs = [x] := by
              match xs, hpos, h1 with
              | [x], _, _ => exact ⟨x, rfl⟩
              | _ :: _ :: _, _, h1 => exact absurd (by simp) h1
            subst hxs
            have hx := hx64 x (by simp)
            have hrx : roundP E [x] = (D 0).testBit x := by
              unfold roundP
              rw [Bool.eq_iff_iff, HS2.out x]
              simp
            rw [hrx] at HIN HIF
            have HC := has_m hd (a := 0) (by omega) hx (hD 0) (o := 0) rfl
            have e1 : bitR D 0 x = (D 0).testBit x := rfl
            rw [e1] at HC
            clear e1 hrx hq
            simp only [List.getElem_singleton, List.length_singleton] at hqc h1I
            cases hb : (D 0).testBit x with
            | true =>
              rw [hb] at HC HIF
              have HF2 : Hid (G.find? (roundP E) = some [x]) := HIF.out rfl
              clear HIN HIF hb
              go_wp2_with fail
              refine HC.mono ?_; rintro e w6 ⟨rfl, rfl⟩
              clear HC
              go_wp2
              go_ret
              exact ⟨_, rfl, by rw [HF2.out]; exact ⟨⟨_, _, _, rfl⟩, HQ.out⟩, hB⟩
            | false =>
              rw [hb] at HC HIN
              have HI2 := Lib.hid (HIN.out rfl)
              clear HIN HIF hb
              go_wp2_with fail
              refine HC.mono ?_; rintro e w6 ⟨rfl, rfl⟩
              clear HC
              go_wp2
              go_roundw
              case rel => exact ⟨k + 1, by omega, by go_num, trivial, HI2⟩
              case measure => simp [intOf]; omega
        · have HF2 : Hid (G.find? (roundP E) = none) := find_missL fun j hj => HI.out j hj (by omega)
          have hnl2 : ¬ (k : Int) < (G.length : Int) := by omega
          clear HI
          go_wp2
          go_ret
          exact ⟨_, rfl, by rw [HF2.out]; exact rfl, hB⟩
theorem all_fine (hn : n ≤ 40) (R : Nat → Nat → Bool) : ∀ g ∈ allP n R, 0 < g.length ∧ ∀ x ∈ g, x < 64 := fun g hg => by
  refine ⟨groups_pos n noneP g hg, fun x hx => ?_⟩
  obtain ⟨u, hu, rfl⟩ := groups_are n noneP g hg
  have := (mem_group.1 hx).1
  omega
theorem groups_len (R : Nat → Nat → Bool) : ∀ f d, (groupsP n R f d).length ≤ f
  | 0, _ => Nat.le_refl _
  | f + 1, d => by
    unfold groupsP
    cases hn : nextP n R d with
    | none => exact Nat.zero_le _
    | some v => have := groups_len R f (markP d (groupP n R v)); simp only [List.length_cons]; omega
theorem all_len (R : Nat → Nat → Bool) : (allP n R).length ≤ n := groups_len R n noneP

set_option maxRecDepth 100000 in
set_option maxHeartbeats 4000000 in
theorem cycle_bad {m : Int} (h : EdAt w v E) (hl : E.length ≤ 150) (hc : chkP m E = 1) : Calls Tryd.prog 17 #[.int .i64 m, v] w (fun e w' => ∃ q, e = .returned q ∧ RowI w' q [] ∧ Below w.heap.size w w') := by
  have HC := groups_bad h hl hc
  clear h hc hl
  go_enter Tryd.func17, Tryd.ntmps17
  go_wp2_with fail
  refine HC.mono ?_; rintro e w2 ⟨rfl, hB⟩
  clear HC
  go_wp2
  go_ret
  exact ⟨_, rfl, RowI.nil _, hB⟩
set_option maxRecDepth 100000 in
set_option maxHeartbeats 4000000 in
theorem cycle_any (h : EdAt w v E) (hl : E.length ≤ 150) (hn : n ≤ 40) (hf : Fits n E) (hT : Tabs w) : Calls Tryd.prog 17 #[.int .i64 n, v] w
    (fun e w' => ∃ q, e = .returned q ∧ RowI w' q (cycleP E (allP n (reachP n E))) ∧ Below w.heap.size w w') := by
  have HC := groups_any h hl hn hf hT
  have HR := Lib.hid (fun (W : World) (q : Value) (hq : RowsI W q (allP n (reachP n E))) (hB : Below w.heap.size w W) => round_any hq (h.later hB) hl hn hf (all_fine hn _) (by have := all_len (n := n) (reachP n E); omega))
  have HY : Hid (cycleP E (allP n (reachP n E)) = ((allP n (reachP n E)).find? (roundP E)).getD []) := by show _ = _; rfl
  clear h hf hT hl
  go_enter Tryd.func17, Tryd.ntmps17
  go_wp2_with fail
  refine HC.mono ?_; rintro e w2 ⟨q, rfl, hq, hB⟩
  clear HC
  have HC := HR.out w2 q hq hB
  go_wp2_with fail
  refine HC.mono ?_; rintro e w3 ⟨r, rfl, hr, hB3⟩
  clear HC HR
  go_wp2
  go_ret
  exact ⟨_, rfl, by rw [HY.out]; exact hr.row, btr hB hB3⟩

/-- what is reached, as it is told -/
def outP (n : Nat) (E : List Ed) (a : Nat) : List Nat := (List.range n).filter (reachP n E a)
set_option maxRecDepth 100000 in
set_option maxHeartbeats 4000000 in
theorem reach_bad {m f : Int} (h : EdAt w v E) (hl : E.length ≤ 150) (hc : chkP m E = 1) : Calls Tryd.prog 19 #[.int .i64 m, v, .int .i64 f] w (fun e w' => ∃ q, e = .returned q ∧ RowI w' q [] ∧ Below w.heap.size w w') := by
  have HC := check_any (n := m) h hl
  rw [hc] at HC
  clear h hc hl
  go_enter Tryd.func19, Tryd.ntmps19
  go_wp2_with fail
  refine HC.mono ?_; rintro e w2 ⟨rfl, hB⟩
  clear HC
  go_wp2
  go_ret
  exact ⟨_, rfl, RowI.nil _, hB⟩
set_option maxRecDepth 100000 in
set_option maxHeartbeats 4000000 in
theorem reach_out {f : Int} (h : EdAt w v E) (hl : E.length ≤ 150) (hn : n ≤ 40) (hf : Fits n E) (ho : f < 0 ∨ n ≤ f) : Calls Tryd.prog 19 #[.int .i64 n, v, .int .i64 f] w (fun e w' => ∃ q, e = .returned q ∧ RowI w' q [] ∧ Below w.heap.size w w') := by
  have HC := check_any (n := (n : Int)) h hl
  rw [chk_fits (by omega) hf] at HC
  clear h hf hl
  by_cases h1 : f < 0
  · go_enter Tryd.func19, Tryd.ntmps19
    go_wp2_with fail
    refine HC.mono ?_; rintro e w2 ⟨rfl, hB⟩
    clear HC
    go_wp2
    go_ret
    exact ⟨_, rfl, RowI.nil _, hB⟩
  · have h2 : (n : Int) ≤ f := by omega
    clear ho
    go_enter Tryd.func19, Tryd.ntmps19
    go_wp2_with fail
    refine HC.mono ?_; rintro e w2 ⟨rfl, hB⟩
    clear HC
    go_wp2
    go_ret
    exact ⟨_, rfl, RowI.nil _, hB⟩
set_option maxRecDepth 100000 in
set_option maxHeartbeats 4000000 in
theorem reach_any {a : Nat} (h : EdAt w v E) (hl : E.length ≤ 150) (hn : n ≤ 40) (hf : Fits n E) (ha : a < n) (hT : Tabs w) : Calls Tryd.prog 19 #[.int .i64 n, v, .int .i64 a] w
    (fun e w' => ∃ q, e = .returned q ∧ RowI w' q (outP n E a) ∧ Below w.heap.size w w') := by
  have HC := check_any (n := (n : Int)) h hl
  rw [chk_fits (by omega) hf] at HC
  have HCL := Lib.hid (fun (W : World) (hB : Below w.heap.size w W) => closure_any (h.later hB) hl hn hf)
  have HT := Lib.hid hT
  have HML := Lib.hid ((small_clos hf).lt (by omega : n ≤ 64))
  have HO : Hid (bitsP (closM n E a) = outP n E a) := bits_small (small_clos hf) (by omega) a
  have h1 : ¬ (a : Int) < 0 := by omega
  have h2 : ¬ (n : Int) ≤ (a : Int) := by omega
  generalize closM n E = M at *
  clear h hf hT hl
  go_enter Tryd.func19, Tryd.ntmps19
  go_wp2_with fail
  refine HC.mono ?_; rintro e w2 ⟨rfl, hB⟩
  clear HC
  have HC := HCL.out w2 hB
  go_wp2_with fail
  refine HC.mono ?_; rintro e w3 ⟨g, rfl, hg, hm, hB3⟩
  clear HC HCL
  have hB := btr hB hB3
  have HC := list_any hm ha HML.out (oa := a * 16) rfl (HT.out.later hB)
  rw [HO.out] at HC
  go_wp2_with fail
  refine HC.mono ?_; rintro e w4 ⟨q, rfl, hq, hB4⟩
  clear HC
  go_wp2
  go_ret
  exact ⟨_, rfl, hq, btr hB hB4⟩
end
end Go.Proofs.YtbkiamecdangpaaDoor.N13
