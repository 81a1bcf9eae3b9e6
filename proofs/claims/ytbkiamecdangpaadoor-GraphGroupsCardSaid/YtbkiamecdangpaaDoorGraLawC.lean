/- The laws of graphs: GraphCycles. -/
import Derived.Test.YtbkiamecdangpaaDoorGraAwake
set_option linter.unusedVariables false
set_option linter.unusedSimpArgs false
namespace Go.Proofs.YtbkiamecdangpaaDoor.N13
open Go.RowKit
section
variable {w w' : World} {v : Value} {E : List Ed}
theorem lit_one (w : World) (xs : List Nat) (p : Value) (hp : RowI w p xs) : RowsI (w.alloc (.cells #[p] 31)) (.slice (some ⟨w.heap.size, 0, none⟩) 1 1) [xs] := by
  have h := World.ownsRow_lit (base := 0) (e := 31) (size := 1) w #[p] 1 (Nat.zero_le _) (by decide) (by rfl)
  have hB : Below w.heap.size w (w.alloc (.cells #[p] 31)) := (Below.refl _ _).alloc (Nat.le_refl _) _
  refine ⟨[p], rfl, h, fun i r zs h1 h2 => ?_⟩
  match i, h1, h2 with
  | 0, h1, h2 => simp at h1 h2; subst h1 h2; exact hp.later hB
  | i + 1, h1, h2 => simp at h1
theorem at_one {xs : List Nat} {x : Nat} (h : x ∈ xs) : atI [xs] x = 0 := at_hit (G := [xs]) (k := 0) (by simp) (fun j hj hjk => absurd hjk (Nat.not_lt_zero _)) h
theorem take_has {xs : List Nat} {j v : Nat} (hj : j < xs.length) : (xs.take (j + 1)).contains v = ((xs.take j).contains v || xs[j] == v) := by
  rw [List.take_succ_eq_append_getElem hj, Bool.eq_iff_iff, List.contains_iff_mem, List.mem_append, List.mem_singleton, Bool.or_eq_true, List.contains_iff_mem, beq_iff_eq]
  exact ⟨fun h => h.imp id fun e => e.symm, fun h => h.imp id fun e => e.symm⟩
theorem out_has {n : Nat} {a : Nat} (ha : a < n) : (outP n E a).contains a = reachP n E a a := by
  rw [Bool.eq_iff_iff, List.contains_iff_mem]
  unfold outP
  rw [List.mem_filter, List.mem_range]
  exact ⟨fun h => h.2, fun h => ⟨ha, h⟩⟩
/-- does one of the first k lead to itself -/
def selfP (n : Nat) (E : List Ed) (k : Nat) : Bool := (List.range k).any fun a => reachP n E a a
theorem self_succ (n : Nat) (k : Nat) : selfP n E (k + 1) = (selfP n E k || reachP n E k k) := by
  unfold selfP; rw [List.range_succ, List.any_append]; simp
theorem self_all {n : Nat} (hf : Fits n E) : selfP n E n = true ↔ (allP n (reachP n E)).find? (roundP E) ≠ none := by
  rw [← round_iff hf (reach_tells hf)]
  unfold selfP
  rw [List.any_eq_true]
  exact ⟨fun ⟨a, ha, h⟩ => ⟨a, List.mem_range.1 ha, h⟩, fun ⟨a, ha, h⟩ => ⟨a, List.mem_range.2 ha, h⟩⟩
/-- what Order tells -/
def OrdIs (w : World) (q : Value) (e : Int) (n : Nat) (E : List Ed) : Prop := match (allP n (reachP n E)).find? (roundP E) with
  | none => e = 0 ∧ RowI w q (allP n (reachP n E)).flatten
  | some _ => e = 9 ∧ q = .slice none 0 0
theorem order_all {n : Nat} (h : EdAt w v E) (hl : E.length ≤ 150) (hn : n ≤ 40) (hf : Fits n E) (hT : Tabs w) : Calls Tryd.prog 11 #[.int .i64 n, v] w (fun r w' => ∃ q e, r = .returned (.tuple #[q, .int .i64 e]) ∧ OrdIs w' q e n E ∧ Below w.heap.size w w') := by
  cases ho : (allP n (reachP n E)).find? (roundP E) with
  | none => exact (order_any h hl hn hf hT ho).mono fun r w' ⟨q, h1, h2, h3⟩ => ⟨q, 0, h1, by unfold OrdIs; rw [ho]; exact ⟨rfl, h2⟩, h3⟩
  | some g => exact (order_round h hl hn hf hT ho).mono fun r w' ⟨h1, h3⟩ => ⟨_, 9, h1, by unfold OrdIs; rw [ho]; exact ⟨rfl, rfl⟩, h3⟩
set_option maxRecDepth 100000 in
set_option maxHeartbeats 8000000 in
theorem law_cycles {n : Int} (h : EdAt w v E) (hT : Tabs w) : Calls Tryd.prog 6 #[.int .i64 n, v] w (fun e w' => e = .returned (.bool true) ∧ Below w.heap.size w w') := by
  have HA := Lib.hid (fun (W : World) (hB : Below w.heap.size w W) => awake_any W (hT.later hB))
  have HF := few_any (n := n) h
  by_cases hfw : n ≤ 40 ∧ E.length ≤ 150
  case neg =>
    have e : (decide (n ≤ 40) && decide (E.length ≤ 150)) = false := by
      rw [Bool.eq_false_iff]; intro q; rw [Bool.and_eq_true, decide_eq_true_eq, decide_eq_true_eq] at q; exact hfw q
    rw [e] at HF
    clear h hT hfw e
    go_enter Tryd.func6, Tryd.ntmps6
    go_wp2_with fail
    refine HF.mono ?_; rintro e w2 ⟨rfl, rfl⟩
    clear HF
    have HC := HA.out w2 (Below.refl _ _)
    go_wp2_with fail
    refine HC.mono ?_; rintro e w3 ⟨rfl, hB⟩
    clear HC
    go_wp2
    go_ret
    exact ⟨rfl, hB⟩
  case pos =>
  obtain ⟨hn, hl⟩ := hfw
  have e : (decide (n ≤ 40) && decide (E.length ≤ 150)) = true := by rw [decide_eq_true hn, decide_eq_true hl]; rfl
  rw [e] at HF
  clear e
  have HK := check_any (n := n) h hl
  rcases chk_cases n E with hc | ⟨hc, m, rfl, -, hf⟩
  case inl =>
    rw [hc] at HK
    clear h hT hn hl hc
    go_enter Tryd.func6, Tryd.ntmps6
    go_wp2_with fail
    refine HF.mono ?_; rintro e w2 ⟨rfl, rfl⟩
    clear HF
    go_wp2_with fail
    refine HK.mono ?_; rintro e w3 ⟨rfl, hB⟩
    clear HK
    have HC := HA.out w3 hB
    go_wp2_with fail
    refine HC.mono ?_; rintro e w4 ⟨rfl, hB4⟩
    clear HC
    go_wp2
    go_ret
    exact ⟨rfl, btr hB hB4⟩
  case inr =>
  rw [hc] at HK
  have hn : m ≤ 40 := by omega
  have HO := Lib.hid (fun (W : World) (hB : Below w.heap.size w W) => order_all (h.later hB) hl hn hf (hT.later hB))
  have HR := Lib.hid (fun (a : Nat) (ha : a < m) (W : World) (hB : Below w.heap.size w W) => reach_any (h.later hB) hl hn hf ha (hT.later hB))
  have HY := Lib.hid (fun (W : World) (hB : Below w.heap.size w W) => cycle_any (h.later hB) hl hn hf (hT.later hB))
  have HSA := Lib.hid (self_all hf)
  have HSS := Lib.hid (fun k => self_succ (E := E) m k)
  have HOH := Lib.hid (fun (a : Nat) (ha : a < m) => out_has (E := E) ha)
  have HOL : Hid (∀ a, (outP m E a).length ≤ m) := fun a => by unfold outP; exact filter_le _ m
  have HSM := Lib.hid (all_sum (n := m) (reach_tells hf).trans)
  have HED : Hid (∀ (k : Nat) (hk : k < E.length), ∃ a b : Nat, E[k] = ((a : Int), (b : Int)) ∧ b < m ∧ b ∈ (allP m (reachP m E)).flatten) := fun k hk => by
    have he := hf _ (List.getElem_mem hk)
    generalize E[k] = ed at he
    obtain ⟨a, b⟩ := ed
    dsimp only at he
    obtain ⟨a, rfl⟩ : ∃ z : Nat, a = (z : Int) := ⟨a.toNat, by omega⟩
    obtain ⟨b, rfl⟩ : ∃ z : Nat, b = (z : Int) := ⟨b.toNat, by omega⟩
    have hb : b < m := by omega
    obtain ⟨g, hg, hm⟩ := all_have (reach_tells hf).trans hb
    exact ⟨a, b, rfl, hb, List.mem_flatten.2 ⟨g, hg, hm⟩⟩
  have HPOS : Hid (∀ g, (allP m (reachP m E)).find? (roundP E) = some g → 0 < g.length) := fun g hg => groups_pos m noneP g (List.mem_of_find?_eq_some hg)
  have HH := Lib.hid h
  have HEL := Lib.hid hl
  obtain ⟨p, cap, rfl⟩ := h.slice
  have hmI : (m : Int) ≤ 40 := by omega
  have hlI : (E.length : Int) ≤ 150 := by omega
  clear h hT hf hc
  go_enter Tryd.func6, Tryd.ntmps6
  go_wp2_with fail
  refine HF.mono ?_; rintro e w2 ⟨rfl, rfl⟩
  clear HF
  go_wp2_with fail
  refine HK.mono ?_; rintro e w3 ⟨rfl, hB⟩
  clear HK
  have HC := HO.out w3 hB
  go_wp2_with fail
  refine HC.mono ?_; rintro e w4 ⟨q, en, rfl, hO, hB4⟩
  clear HC HO
  have hB := btr hB hB4
  have HORD := Lib.hid hO
  clear hO hB4
  go_wp2_with fail
  go_loopw [7, 8] (fun mo i wr => ∃ k : Nat, k ≤ m ∧ i = .int .i64 k ∧ mo = .bool (selfP m E k) ∧ Below w4.heap.size w4 wr) (fun _ i _ => m - (intOf i).toNat)
  case atStart => exact ⟨0, Nat.zero_le _, rfl, rfl, Below.refl _ _⟩
  case round =>
    obtain ⟨k, hk, rfl, rfl, hB4⟩ := hrel
    by_cases hlt : k < m
    · have hltI : decide ((k : Int) < (m : Int)) = true := decide_eq_true (by omega)
      have HC := HR.out k hlt wr (btr hB hB4)
      have HS := Lib.hid (HSS.out k)
      have HH2 := HOH.out k hlt
      have hol := HOL.out k
      rw [← HH2] at HS
      have HT2 := Lib.hid (fun (j : Nat) (hj : j < (outP m E k).length) => take_has (v := k) hj)
      generalize outP m E k = xs at *
      clear HH2
      go_wp2_with fail
      refine HC.mono ?_; rintro e w5 ⟨r, rfl, hr, hB5⟩
      clear HC
      have hB5 := btr hB4 hB5
      have HRR := Lib.hid hr
      obtain ⟨rp, rc, rfl⟩ := hr.slice
      obtain ⟨s0, hs0⟩ : ∃ s0, s0 = selfP m E k := ⟨_, rfl⟩
      rw [← hs0] at HS
      simp only [← hs0]
      clear hr hs0 hB4
      go_wp2_with fail
      go_loopw [7, 10] (fun mo i wr => ∃ j : Nat, j ≤ xs.length ∧ i = .int .i64 j ∧ mo = .bool (s0 || (xs.take j).contains k) ∧ w5 = wr) (fun _ i _ => xs.length - (intOf i).toNat)
      case atStart => exact ⟨0, Nat.zero_le _, rfl, by simp, rfl⟩
      case round =>
        obtain ⟨j, hj, rfl, rfl, rfl⟩ := hrel
        by_cases hjl : j < xs.length
        · have hjI : decide ((j : Int) < (xs.length : Int)) = true := decide_eq_true (by omega)
          obtain ⟨pg, rfl, -, hc1⟩ := HRR.out.at hjl
          have HTK := HT2.out j hjl
          generalize xs[j] = x at *
          have HG : ∀ b, (s0 || (xs.take j).contains k) = b → (s0 || (xs.take (j + 1)).contains k) = (b || x == k) := fun b hb => by rw [HTK, ← hb, Bool.or_assoc]
          have HG2 := Lib.hid HG
          clear HTK HG
          cases hb : (s0 || (xs.take j).contains k) with
          | true =>
            have HF2 := Lib.hid (HG2.out _ hb)
            clear HG2 hb
            go_wp2
            go_roundw
            case rel => exact ⟨j + 1, by omega, by go_num, by rw [HF2.out]; rfl, trivial⟩
            case measure => simp [intOf]; omega
          | false =>
            have HF2 := Lib.hid (HG2.out _ hb)
            by_cases hx : x = k
            · have hxI : ((x : Int) == (k : Int)) = true := by rw [beq_iff_eq]; omega
              have HF3 : Hid ((s0 || (xs.take (j + 1)).contains k) = true) := by show _ = _; rw [HF2.out, hx]; simp
              clear HG2 hb hx HF2
              go_wp2
              go_roundw
              case rel => exact ⟨j + 1, by omega, by go_num, by rw [HF3.out], trivial⟩
              case measure => simp [intOf]; omega
            · have hxI : ((x : Int) == (k : Int)) = false := by rw [beq_eq_false_iff_ne]; omega
              have HF3 : Hid ((s0 || (xs.take (j + 1)).contains k) = false) := by show _ = _; rw [HF2.out]; simp [hx]
              clear HG2 hb hx HF2
              go_wp2
              go_roundw
              case rel => exact ⟨j + 1, by omega, by go_num, by rw [HF3.out], trivial⟩
              case measure => simp [intOf]; omega
        · have e : j = xs.length := by omega
          subst e
          rw [List.take_length]
          have HS2 : Hid (selfP m E (k + 1) = (s0 || xs.contains k)) := HS.out
          have hnl : ¬ (xs.length : Int) < (xs.length : Int) := by omega
          rw [← HS2.out]
          go_wp2
          go_roundw
          case rel => exact ⟨k + 1, by omega, by go_num, rfl, hB5⟩
          case measure => simp [intOf]; omega
    · have e : m = k := by omega
      subst e
      have hnl : ¬ (m : Int) < (m : Int) := by omega
      have hOr := HORD.out
      have hBw := btr hB hB4
      have HCY := HY.out
      clear HR HY HSS HOH HOL
      cases ho : (allP m (reachP m E)).find? (roundP E) with
      | some g =>
        unfold OrdIs at hOr
        rw [ho] at hOr
        obtain ⟨rfl, rfl⟩ := hOr
        have hs : selfP m E m = true := HSA.out.2 (by rw [ho]; simp)
        have hpos := HPOS.out g ho
        have hcy : cycleP E (allP m (reachP m E)) = g := by unfold cycleP; rw [ho]; rfl
        rw [hs]
        have HC := HCY wr hBw
        rw [hcy] at HC
        clear hs hcy ho HSA HPOS HED HCY HORD HSM
        go_wp2_with fail
        refine HC.mono ?_; rintro e w5 ⟨r, rfl, hr, hB5⟩
        clear HC
        have hBw := btr hBw hB5
        obtain ⟨rp, rc, rfl⟩ := hr.slice
        have hgI : (0 : Int) < (g.length : Int) := by omega
        have HC := HA.out w5 hBw
        clear hr
        go_wp2_with fail
        refine HC.mono ?_; rintro e w6 ⟨rfl, hB6⟩
        go_wp2
        go_ret
        exact ⟨rfl, btr hBw hB6⟩
      | none =>
        unfold OrdIs at hOr
        rw [ho] at hOr
        obtain ⟨rfl, hq⟩ := hOr
        have hs : selfP m E m = false := by
          rw [Bool.eq_false_iff]
          intro h1
          exact HSA.out.1 h1 ho
        have hcy : cycleP E (allP m (reachP m E)) = [] := by unfold cycleP; rw [ho]; rfl
        have hfl : (allP m (reachP m E)).flatten.length = m := by rw [List.length_flatten, HSM.out]
        rw [hcy] at HCY
        rw [hs]
        have HED2 := Lib.hid HED.out
        have HQ := Lib.hid (hq.later hB4)
        have HCC := Lib.hid HCY
        have HFL := Lib.hid hfl
        obtain ⟨qp, qc, rfl⟩ := hq.slice
        clear hs hcy ho HSA HPOS HED HORD HSM hq HCY
        rw [hfl] at HQ ⊢
        generalize (allP m (reachP m E)).flatten = fl at *
        clear hfl
        generalize wr = wz at *
        go_wp2_with fail
        go_loopw [11] (fun i w5 => ∃ k : Nat, k ≤ E.length ∧ i = .int .i64 k ∧ Below wz.heap.size wz w5) (fun i _ => E.length - (intOf i).toNat)
        case atStart => exact ⟨0, Nat.zero_le _, rfl, Below.refl _ _⟩
        case round =>
          obtain ⟨k, hk, rfl, hB6⟩ := hrel
          have hBw6 := btr hBw hB6
          have hE6 := HEL.out
          by_cases hlt : k < E.length
          · have hltI : decide ((k : Int) < (E.length : Int)) = true := decide_eq_true (by omega)
            obtain ⟨g, o, rfl, hg, c0, c1⟩ := (HH.out.later hBw6).at hlt
            obtain ⟨a, b, e1, hb, hm⟩ := HED2.out k hlt
            rw [e1] at c0 c1
            dsimp only at c0 c1
            have c1' : (wr.alloc (.cells #[.slice qp m qc] 31)).cell? ⟨g, o + k * 2 + 1, none⟩ = some (.int .i64 (b : Int)) := ((below_alloc wr _).cell (p := ⟨g, o + k * 2 + 1, none⟩) hg).trans c1
            have r1 := lit_one wr _ _ (HQ.out.later hB6)
            have HC := at_any (v := b) r1 (by simp) (by intro g hg; rw [List.mem_singleton.1 hg, HFL.out]; omega) (by omega)
            rw [at_one hm] at HC
            have hB7 := btr hB6 (below_alloc wr (.cells #[.slice qp m qc] 31))
            clear r1 e1 hm
            go_wp2_with fail
            refine HC.mono ?_; rintro e w7 ⟨rfl, rfl⟩
            clear HC
            go_wp2
            go_roundw
            case rel => exact ⟨k + 1, by omega, by go_num, hB7⟩
            case measure => simp [intOf]; omega
          · have hnl3 : ¬ (k : Int) < (E.length : Int) := by omega
            have HC := HCC.out wr hBw6
            have hmm : ((m : Int) == (m : Int)) = true := by simp
            go_wp2_with fail
            refine HC.mono ?_; rintro e w7 ⟨r, rfl, hr, hB8⟩
            clear HC
            have hBw8 := btr hBw6 hB8
            obtain ⟨rp, rc, rfl⟩ := hr.slice
            have HC := HA.out w7 hBw8
            clear hr
            go_wp2_with fail
            refine HC.mono ?_; rintro e w8 ⟨rfl, hB9⟩
            go_wp2
            go_ret
            exact ⟨rfl, btr hBw8 hB9⟩
end
end Go.Proofs.YtbkiamecdangpaaDoor.N13
