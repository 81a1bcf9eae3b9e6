/- The law PtypesFails, walked. -/
import Derived.Test.YtlammclbnihopaaPtyAwake
import Derived.Test.YtlammclbnihopaaPtyNames
import Derived.Test.YtlammclbnihopaaLexB
namespace Go.Proofs.Ytlammclbnihopaa.N7
open Go.RowKit N5 N6
attribute [local go_sem] fld0 fld1

theorem any_snoc {xs : List Tk} {p : Int} {j : Nat} (h : j < xs.length) : (xs.take (j + 1)).any (fun t => decide (t.pos = p)) = ((xs.take j).any (fun t => decide (t.pos = p)) || decide (xs[j].pos = p)) := by
  rw [List.take_succ_eq_append_getElem h, List.any_append]
  simp
set_option maxRecDepth 100000 in
set_option maxHeartbeats 8000000 in
theorem walk_PtypesFails (s : ByteArray) (w : World) (h63 : s.size ≤ maxLen) : Calls Try.prog 7 #[.string s] w (SaysIs true w) := by
  by_cases hs : s.size ≤ 3000
  case neg =>
    have hs' : (3000 : Int) < (s.size : Int) := by omega
    have HA := awake_any w
    clear hs
    go_enter Try.func7, Try.ntmps7
    go_wp2_with fail
    refine HA.mono ?_; rintro e W2 ⟨rfl, hB⟩
    go_wp2_with fail
    go_ret
    exact ⟨rfl, hB⟩
  case pos =>
  have hs' : ¬ (3000 : Int) < (s.size : Int) := by omega
  have HT := typet_any s hs w
  have F1 : (typeL s).2.2 = 0 → (typeL s).2.1 = 0 := fun h => readL_zero h
  have F2 := fun r (hl : N4.lexAll s = .ok r) (h : (typeL s).2.2 = 5) => fails_at hl h
  have F3 : (typeL s).2.2 = 5 → varB s.data.toList = false ∧ conB s.data.toList = false := fun h => by
    refine ⟨?_, ?_⟩
    · cases hv : varB s.data.toList with
      | false => rfl
      | true => rw [type_name (.inl hv)] at h; cases h
    · cases hv : conB s.data.toList with
      | false => rfl
      | true => rw [type_name (.inr hv)] at h; cases h
  have HLX := fun w' => N4.reflex_any s w' (by omega)
  obtain ⟨⟨t, p, x⟩, ho⟩ : ∃ o, o = typeL s := ⟨_, rfl⟩
  rw [← ho] at HT F1 F2 F3
  dsimp only at F1 F2 F3
  have H1 := Lib.hid F1
  have H2 := Lib.hid F2
  have H3 := Lib.hid F3
  clear F1 F2 F3 ho hs
  go_enter Try.func7, Try.ntmps7
  go_wp2_with fail
  refine HT.mono ?_; rintro e W1 ⟨⟨dk, dp, dn, dt, dq, dl, dc⟩, rfl, -, hB1⟩
  unfold NC.val
  dsimp only
  go_upto_region 4 with fail
  obtain ⟨V1, hV⟩ : ∃ V, V = W1.alloc (.cells #[.int .i64 dk, .int .i64 dp, .int .i64 dn, .string ⟨dt.toArray⟩, .slice dq dl dc] 25) := ⟨_, rfl⟩
  rw [← hV]
  have hBV : Below W1.heap.size W1 V1 := by rw [hV]; exact (Below.refl _ _).alloc (Nat.le_refl _) _
  have hBt := hB1.trans (hBV.mono hB1.size)
  have HL := HLX V1
  clear hV hBV hB1 HT HLX
  unfold N4.LexIs at HL
  cases hl : N4.lexAll s with
  | error ky =>
    obtain ⟨k, y⟩ := ky
    have hy : ¬ y = 0 := lexAll_err hl
    rw [hl] at HL
    go_wp2_with fail
    refine HL.mono ?_; rintro e W2 ⟨rfl, hB⟩
    have hBt := hBt.trans (hB.mono hBt.size)
    have HA := awake_any W2
    clear HL hB
    by_cases hx : x = 0
    · obtain rfl : p = 0 := H1.out hx
      subst hx
      go_wp2_with fail
      refine HA.mono ?_; rintro e W3 ⟨rfl, hB⟩
      go_wp2_with fail
      go_ret
      exact ⟨rfl, hBt.trans (hB.mono hBt.size)⟩
    · by_cases hx5 : x = 5
      · subst hx5
        go_wp2_with fail
        refine HA.mono ?_; rintro e W3 ⟨rfl, hB⟩
        go_wp2_with fail
        go_ret
        exact ⟨rfl, hBt.trans (hB.mono hBt.size)⟩
      · go_wp2_with fail
        refine HA.mono ?_; rintro e W3 ⟨rfl, hB⟩
        go_wp2_with fail
        go_ret
        exact ⟨rfl, hBt.trans (hB.mono hBt.size)⟩
  | ok r =>
    rw [hl] at HL
    go_wp2_with fail
    refine HL.mono ?_; rintro e W2 ⟨vr, rfl, hrow, hB⟩
    have hBt := hBt.trans (hB.mono hBt.size)
    by_cases hx5 : x = 5
    case neg =>
      have HA := awake_any W2
      clear HL hB hrow
      by_cases hx : x = 0
      · obtain rfl : p = 0 := H1.out hx
        subst hx
        go_wp2_with fail
        refine HA.mono ?_; rintro e W3 ⟨rfl, hB⟩
        go_wp2_with fail
        go_ret
        exact ⟨rfl, hBt.trans (hB.mono hBt.size)⟩
      · go_wp2_with fail
        refine HA.mono ?_; rintro e W3 ⟨rfl, hB⟩
        go_wp2_with fail
        go_ret
        exact ⟨rfl, hBt.trans (hB.mono hBt.size)⟩
    case pos =>
      subst hx5
      obtain ⟨xs, hxs⟩ : ∃ xs, xs = r ++ [N4.endTk s] := ⟨_, rfl⟩
      have hlen : xs.length = r.length + 1 := by rw [hxs]; simp
      have hmem : ∃ t ∈ xs, p = t.pos := by rw [hxs]; exact H2.out r hl rfl
      have hl3 := lexAll_len hl
      rw [← hxs, ← hlen] at hrow
      rcases N4.row_cells hrow with ⟨_, h0⟩ | ⟨g, cap, rfl, hbg, hgs, hcell⟩
      · rw [h0] at hlen; cases hlen
      have hle : xs.length ≤ cap := by
        rcases hrow.2 with ⟨e0, _⟩ | ⟨g', cap', cur, e1, _, _, h4, _⟩
        · cases e0
        · injection e1 with _ _ e3; omega
      have HCE : Hid (∀ (j : Nat) (t : Tk), xs[j]? = some t → W2.cell? ⟨g, j * 4 + 1, none⟩ = some (.int .i64 t.pos)) := fun j t h => by
        obtain ⟨hj, e⟩ := List.getElem?_eq_some_iff.1 h
        rw [← e]; exact (hcell j hj).2.1
      have HG := Lib.hid hgs
      have HM := Lib.hid hmem
      have HXL := Lib.hid hlen
      have h3001 : xs.length ≤ 3001 := by omega
      obtain ⟨v1, v2⟩ := H3.out rfl
      have HV := fun W => refvar_any s W h63
      have HCN := fun W => refcon_any s W h63
      have HA := fun W => awake_any W
      rw [v1] at HV
      rw [v2] at HCN
      clear HL hB hrow hcell hgs hmem hlen hl hbg v1 v2
      generalize hn : xs.length = n at *
      have HN := Lib.hid hn
      clear hn
      go_wp2_with fail
      go_loopg [9, 10] n (fun gk b i wr => ∃ (j : Nat) (q : Bool), j + gk = n ∧ b = .bool q ∧ i = .int .i64 (j : Int) ∧ Hid (((xs.take j).any fun t => decide (t.pos = p)) = q) ∧ Below W2.heap.size W2 wr)
      case atStart => exact ⟨0, false, by omega, rfl, rfl, rfl, Below.refl _ _⟩
      case round =>
        obtain ⟨j, q, hjg, rfl, rfl, HQ, hBw⟩ := hrel
        cases gk with
        | zero =>
          obtain rfl : j = n := by omega
          obtain rfl : q = true := by
            rw [← HQ.out, List.take_of_length_le (by rw [HN.out]; exact Nat.le_refl _)]
            obtain ⟨t, ht, hp⟩ := HM.out
            exact List.any_eq_true.2 ⟨t, ht, by simp [hp]⟩
          go_wp2_with fail
          refine (HV _).mono ?_; rintro e W3 ⟨rfl, rfl⟩
          go_wp2_with fail
          refine (HCN _).mono ?_; rintro e W3 ⟨rfl, rfl⟩
          go_wp2_with fail
          refine (HA _).mono ?_; rintro e W3 ⟨rfl, hB⟩
          go_wp2_with fail
          try rw [Exit.noGoto_ret]
          go_ret
          have hBt := hBt.trans (hBw.mono hBt.size)
          exact ⟨rfl, hBt.trans (hB.mono hBt.size)⟩
        | succ gk =>
          have hlt : j < n := by omega
          have hlt' : (j : Int) < (n : Int) := by omega
          have hjx : j < xs.length := by rw [HN.out]; exact hlt
          cases q with
          | true =>
            have HQ2 : Hid (((xs.take (j + 1)).any fun t => decide (t.pos = p)) = true) := by show _ = _; rw [any_snoc hjx, HQ.out]; rfl
            go_wp2_with fail
            go_roundg gk
            case measure => omega
            case rel => exact ⟨j + 1, true, by omega, rfl, by go_num, HQ2, hBw⟩
          | false =>
            have c1 := HCE.out j _ (List.getElem?_eq_getElem hjx)
            have cc : wr.cell? ⟨g, j * 4 + 1, none⟩ = some (.int .i64 xs[j].pos) := (hBw.cell (p := ⟨g, j * 4 + 1, none⟩) HG.out).trans c1
            have HQ2 : Hid (((xs.take (j + 1)).any fun t => decide (t.pos = p)) = decide (xs[j].pos = p)) := by show _ = _; rw [any_snoc hjx, HQ.out]; rfl
            clear c1
            generalize xs[j].pos = z at *
            by_cases hz : z = p
            · subst hz
              go_wp2_with fail
              go_roundg gk
              case measure => omega
              case rel => exact ⟨j + 1, true, by omega, by simp, by go_num, by show _ = _; rw [HQ2.out]; simp, hBw⟩
            · go_wp2_with fail
              go_roundg gk
              case measure => omega
              case rel => exact ⟨j + 1, false, by omega, by simp [hz], by go_num, by show _ = _; rw [HQ2.out]; simp [hz], hBw⟩
end Go.Proofs.Ytlammclbnihopaa.N7
