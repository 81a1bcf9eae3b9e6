/- The document's side: Groups. -/
import Derived.Test.YtbkiamecdangpaaDoorGraRefF
set_option linter.unusedVariables false
set_option linter.unusedSimpArgs false
namespace Go.Proofs.YtbkiamecdangpaaDoor.N13
open Go.RowKit
section
variable {w w' w1 wr : World} {v q : Value} {E : List Ed} {n d : Nat} {dm : Nat → Bool} {R : Nat → Nat → Bool}
theorem gb_append {o : Obj} {e : TypeId} {U k m : Nat} {x : List Value} (h : wr.grownBy w (some d)) (ho : w.ownsRow U e k q m x) (hg : (w.alloc o).grownBy w1 q.ownBlock) (hU : U = wr.heap.size := by rfl) : wr.grownBy w1 (some d) := by
  subst hU
  have hs := hg.size
  simp at hs
  have hsz := h.size
  refine ⟨hg.os.trans h.os, hg.tape.trans h.tape, hg.output.trans h.output, by omega, fun k hk hne => ?_⟩
  refine (hg.block k (by simp; omega) fun e => ?_).trans ((Below.heap_alloc _ _ _ (by omega)).trans (h.block k hk hne))
  have := (ho.lt k e.symm).1
  omega
theorem gb_put {w2 : World} (h : wr.grownBy w (some d)) (hP : Put d w w2) : wr.grownBy w2 (some d) := by
  have hz := hP.zero
  exact ⟨hz.os.trans h.os, hz.tape.trans h.tape, hz.output.trans h.output, Nat.le_trans h.size hP.size, fun k hk hne => (hP.other k fun e => hne (by rw [e])).trans (h.block k hk hne)⟩
theorem BoolsAt.past {o : Obj} {b k m nn : Nat} {e : TypeId} {x : List Value} (h : BoolsAt w d nn dm) (ho : w.ownsRow b e k q m x) (hg : (w.alloc o).grownBy w1 q.ownBlock) (hne : e ≠ 4 := by decide) : BoolsAt w1 d nn dm := by
  have h2 : BoolsAt (w.alloc o) d nn dm := h.later ((Below.refl _ _).alloc (Nat.le_refl _) _)
  have hlt := h2.lt
  obtain ⟨cs, hb, _⟩ := h
  have hf := own_far ho hb hne
  refine h2.same (hg.block d hlt fun e => ?_)
  rcases hf with hf | hf
  · rw [hf] at e; cases e
  · exact hf e.symm
theorem MatAt.past {o : Obj} {B b k m : Nat} {e : TypeId} {x : List Value} (h : MatAt w B v n n R) (ho : w.ownsRow b e k q m x) (hg : (w.alloc o).grownBy w1 q.ownBlock) (hne : e ≠ 4 := by decide) (hne2 : 56 ≠ e := by decide) : MatAt w1 B v n n R := by
  obtain ⟨vs, hl, hown, he⟩ := h
  refine ⟨vs, hl, World.ownsRow.kept (World.ownsRow.alloc hown o) hg (own_apart hown ho hne2), fun i hi => ?_⟩
  obtain ⟨b, h1, h2, h3⟩ := he i hi
  exact ⟨b, h1, h2, h3.past ho hg hne⟩
theorem RowI.gb {xs : List Nat} (h : RowI wr q xs) (hd : BoolsAt wr d n dm) (hg : wr.grownBy w (some d)) : RowI w q xs := by
  obtain ⟨cs, hb, _⟩ := hd
  exact World.ownsRow.kept h hg (own_far h hb (by decide))
theorem OwnR.gb {B : Nat} {G : List (List Nat)} (h : OwnR B v G wr) (hd : BoolsAt wr d n dm) (hg : wr.grownBy w (some d)) : OwnR B v G w := by
  obtain ⟨vs, hl, ho, he⟩ := h
  have hd' := hd
  obtain ⟨cs, hb, _⟩ := hd'
  exact ⟨vs, hl, ho.kept hg (own_far ho hb (by decide)), fun i q xs h1 h2 => (he i q xs h1 h2).gb hd hg⟩
theorem info_bools : (Tryd.prog.info? 56).map (fun i => (i.zero, i.size, i.bytes)) = some (some (.slice none 0 0), 1, 24) := by kernel_rfl
/-- rows of bools that come one by one -/
def OwnM (B : Nat) (v : Value) (k n : Nat) (R : Nat → Nat → Bool) (w : World) : Prop := ∃ vs : List Value, vs.length = k ∧ w.ownsRow B 56 1 v vs.length vs ∧ ∀ (i : Nat), i < k → ∃ b, vs[i]? = some (.slice (some ⟨b, 0, none⟩) n n) ∧ BoolsAt w b n (R i)
theorem OwnM.later {B k : Nat} (h : OwnM B v k n R w) (hB : Below w.heap.size w w') : OwnM B v k n R w' := by
  obtain ⟨vs, hl, ho, he⟩ := h
  refine ⟨vs, hl, own_later ho hB, fun i hi => ?_⟩
  obtain ⟨b, h1, h3⟩ := he i hi
  exact ⟨b, h1, h3.later hB⟩
theorem OwnM.mat {B : Nat} (h : OwnM B v n n R w) : MatAt w w.heap.size v n n R := by
  obtain ⟨vs, hl, ho, he⟩ := h
  refine ⟨vs, hl, ho.mono (Nat.zero_le _), fun i hi => ?_⟩
  obtain ⟨b, h1, h3⟩ := he i hi
  exact ⟨b, h1, h3.lt, h3⟩
theorem OwnM.push {B k b : Nat} {o : Obj} {vs : List Value} {v' : Value} (hl : vs.length = k) (ho : w.ownsRow B 56 1 v vs.length vs) (he : ∀ (i : Nat), i < k → ∃ b, vs[i]? = some (.slice (some ⟨b, 0, none⟩) n n) ∧ BoolsAt w b n (R i)) (hb : BoolsAt w b n (R k))
    (h1 : w1.ownsRow B 56 1 v' (vs.length + 1) (vs ++ [.slice (some ⟨b, 0, none⟩) n n])) (h2 : (w.alloc o).grownBy w1 v.ownBlock) : OwnM B v' (k + 1) n R w1 := by
  refine ⟨vs ++ [.slice (some ⟨b, 0, none⟩) n n], by simp [hl], by rw [List.length_append]; exact h1, fun i hi => ?_⟩
  by_cases e : i = k
  · subst e
    exact ⟨b, by rw [← hl, List.getElem?_append_right (Nat.le_refl _), Nat.sub_self]; rfl, hb.past ho h2⟩
  · obtain ⟨c, g1, g2⟩ := he i (by omega)
    exact ⟨c, by rw [List.getElem?_append_left (by omega)]; exact g1, g2.past ho h2⟩
set_option maxRecDepth 100000 in
set_option maxHeartbeats 4000000 in
theorem refgroups_bad {m : Int} (h : EdAt w v E) (hl : E.length ≤ 150) (hc : chkP m E = 1) : Calls Tryd.prog 10 #[.int .i64 m, v] w (fun e w' => e = .returned (.tuple #[.slice none 0 0, .int .i64 1]) ∧ Below w.heap.size w w') := by
  have HC := refcheck_any (n := m) h hl
  rw [hc] at HC
  clear h hc hl
  go_enter Tryd.func10, Tryd.ntmps10
  go_wp2_with fail
  refine HC.mono ?_; rintro e w2 ⟨rfl, hB⟩
  clear HC
  go_wp2
  go_ret2
  exact ⟨rfl, hB⟩
/-- what the rounds keep: the measure -/
theorem meas_step {c n a : Nat} (ha : a < n) : c * (n + 1) + (n - (a + 1)) < c * (n + 1) + (n - a) := by omega
theorem meas_group {c c' n a : Nat} (ha : a < n) (hc : c' < c) : c' * (n + 1) + n < c * (n + 1) + (n - a) := by
  have h1 : (c' + 1) * (n + 1) ≤ c * (n + 1) := Nat.mul_le_mul_right _ hc
  rw [Nat.add_mul, Nat.one_mul] at h1
  omega
set_option maxRecDepth 100000 in
set_option maxHeartbeats 8000000 in
theorem refgroups_any (h : EdAt w v E) (hl : E.length ≤ 150) (hn : n ≤ 40) (hf : Fits n E) : Calls Tryd.prog 10 #[.int .i64 n, v] w
    (fun e w' => ∃ q, e = .returned (.tuple #[q, .int .i64 0]) ∧ RowsI w' q (allP n (reachP n E)) ∧ Below w.heap.size w w') := by
  have HC := refcheck_any (n := (n : Int)) h hl
  rw [chk_fits (by omega) hf] at HC
  have HCL := Lib.hid (fun (a : Nat) (ha : a < n) (W : World) (hB : Below w.heap.size w W) => refmarks_any (h.later hB) hl hn ha hf)
  generalize reachP n E = R at *
  obtain ⟨i0, hi, hz0, hz1, hz2⟩ := info_parts info_bools
  obtain ⟨j0, hj, hj0, hj1, hj2⟩ := info_parts info_int
  obtain ⟨l0, hl, hl0, hl1, hl2⟩ := info_parts info_ints
  have HAL := Lib.hid (all_len (n := n) R)
  have HFU := Lib.hid (fun (d : Nat → Bool) (k : Nat) (hk : cnt n (fun w => !d w) ≤ k) => groups_fuel (R := R) n k d (cnt_le n _) hk)
  clear h hf
  go_enter Tryd.func10, Tryd.ntmps10
  go_wp2_with fail
  refine HC.mono ?_; rintro e w2 ⟨rfl, hB⟩
  clear HC
  go_wp2_with fail
  go_loopw [7, 8] (fun u i wr => ∃ (k : Nat) (q : Value), k ≤ n ∧ i = .int .i64 k ∧ q = u ∧ OwnM w2.heap.size q k n R wr ∧ Below w2.heap.size w2 wr) (fun _ i _ => n - (intOf i).toNat)
  case atStart => exact ⟨0, _, Nat.zero_le _, rfl, rfl, ⟨[], rfl, World.ownsRow_nil _ _ _ _, fun i hi => absurd hi (Nat.not_lt_zero _)⟩, Below.refl _ _⟩
  case round =>
    obtain ⟨k, q, hk, rfl, rfl, hM, hB2⟩ := hrel
    by_cases hlt : k < n
    · have hltI : decide ((k : Int) < (n : Int)) = true := decide_eq_true (by omega)
      have HC := HCL.out k hlt wr (btr hB hB2)
      go_wp2_with fail
      refine HC.mono ?_; rintro e w3 ⟨b, rfl, hbs, hb, hB3⟩
      clear HC
      have hM := hM.later hB3
      have hB4 := btr hB2 hB3
      clear hB2 hB3
      obtain ⟨vs, hvl, hown, heach⟩ := hM
      have hs3 := hB4.size
      go_wp2_with (at_builtin; refine wpList_append_own _ rfl _ _ 55 rfl w2.heap.size 56 i0 (.slice none 0 0) 1 24 Tryd.underlying55 hi hz0 hz1 hz2 rfl (by decide) _ _ _ rfl (hown.alloc _) ⟨_, 0, none⟩ 1 1 [.slice (some ⟨b, 0, none⟩) n n] rfl rfl ?d1 ?d2 ?d3 ?d4 ?d5 ?_)
      case d1 =>
        intro j u hj
        match j, hj with
        | 0, hj => simp at hj; subst hj; simp [Addr.add]
      case d2 => first | rfl | (intro u hu; simp at hu; subst hu; rfl)
      case d3 => unfold maxLen; omega
      case d4 => omega
      case d5 => first | omega | (simp; omega)
      intro v' w1 hown' hgrow _
      have R2 := OwnM.push hvl hown heach hb (by rw [hvl]; exact hown') hgrow
      have hB5 : Below w2.heap.size w2 w1 := (hB4.alloc hB4.size _).grown hgrow (by simp; exact Nat.le_succ_of_le hB4.size) (fun k hk => (hown.lt k hk).1)
      clear hown' hgrow hown heach hb hB4
      go_wp2
      go_roundw
      case rel => exact ⟨k + 1, _, by omega, by go_num, rfl, R2, hB5⟩
      case measure => simp [intOf]; omega
    · have e : n = k := by omega
      subst e
      have hmat := hM.mat
      have hBw := btr hB hB2
      have hww := hBw.size
      clear hM hB hB2 HCL
      have hnl : ¬ (n : Int) < (n : Int) := by omega
      obtain ⟨cs, hmk, hcs⟩ := make_bools n (by omega) wr
      have hd := made_bools wr n
      rw [← hcs] at hd
      have hmat := hmat.later ((Below.refl _ _).alloc (Nat.le_refl _) (.cells cs 4))
      have hBw := hBw.alloc hBw.size (.cells cs 4)
      have hgs : wr.heap.size < (wr.alloc (.cells cs 4)).heap.size := by simp
      clear hcs
      go_wp2_with fail
      generalize wr.alloc (.cells cs 4) = w4 at *
      generalize wr.heap.size = d at *
      clear hmk
      obtain ⟨mp, mc, rfl⟩ := hmat.slice
      go_loopg [10, 11] (n * (n + 1) + n) (fun z u i wr => ∃ (a : Nat) (q : Value) (G : List (List Nat)) (dm : Nat → Bool), a ≤ n ∧ i = .int .i64 a ∧ q = u ∧ MatAt wr d (.slice mp n mc) n n R ∧ BoolsAt wr d n dm ∧ OwnR w.heap.size q G wr ∧ Below w.heap.size w wr ∧
        Hid ((allP n R = G ++ groupsP n R n dm) ∧ (∀ j, j < a → (!dm j && readyP n R dm j) = false) ∧ cnt n (fun w => !dm w) * (n + 1) + (n - a) ≤ z))
      case atStart =>
        refine ⟨0, _, [], fun _ => false, Nat.zero_le _, rfl, rfl, hmat, hd, OwnR.nil _ _, hBw, Lib.hid ⟨rfl, fun j hj => absurd hj (Nat.not_lt_zero _), ?_⟩⟩
        have h1 := Nat.mul_le_mul_right (n + 1) (cnt_le n fun _ => !false)
        show cnt n (fun _ => !false) * (n + 1) + (n - 0) ≤ n * (n + 1) + n
        omega
      case round =>
        obtain ⟨a, q, G, dm, ha, rfl, rfl, hmat, hd, hR, hBw, HI⟩ := hrel
        by_cases hlt : a < n
        · have hltI : decide ((a : Int) < (n : Int)) = true := decide_eq_true (by omega)
          have cd := hd.cell hlt
          have HFR := free_any hmat hd hn hlt
          have HSK : Hid ((!dm a && readyP n R dm a) = false → (allP n R = G ++ groupsP n R n dm) ∧ (∀ j, j < a + 1 → (!dm j && readyP n R dm j) = false) ∧ cnt n (fun w => !dm w) * (n + 1) + (n - (a + 1)) < gk) := fun h0 =>
            ⟨HI.out.1, fun j hj => by
              by_cases e : j = a
              · subst e; exact h0
              · exact HI.out.2.1 j (by omega), Nat.lt_of_lt_of_le (meas_step hlt) HI.out.2.2⟩
          have HNX : Hid ((!dm a && readyP n R dm a) = true → (allP n R = (G ++ [groupP n R a]) ++ groupsP n R n (markP dm (groupP n R a))) ∧ cnt n (fun w => !(markP dm (groupP n R a)) w) * (n + 1) + n < gk) := fun h0 => by
            have hx : nextP n R dm = some a := find_hit hlt (fun j hj => HI.out.2.1 j hj) h0
            have hm := mark_fewer hx
            have hp : cnt n (fun w => !dm w) ≤ n := cnt_le n _
            refine ⟨?_, Nat.lt_of_lt_of_le (meas_group hlt hm) HI.out.2.2⟩
            have h1 := HI.out.1
            rw [HFU.out dm (cnt n (fun w => !dm w) - 1 + 1) (by omega), groups_next hx] at h1
            rw [h1, HFU.out (markP dm (groupP n R a)) (cnt n (fun w => !dm w) - 1) (by omega)]
            simp
          have HGL : Hid (G.length ≤ n) := by
            have := HAL.out
            rw [HI.out.1, List.length_append] at this
            show _ ≤ _
            omega
          clear HI
          cases hda : dm a with
          | true =>
            rw [hda] at cd
            have HS2 := Lib.hid (HSK.out (by rw [hda]; rfl))
            clear HSK HNX HFR hda
            go_wp2
            go_roundg (cnt n (fun w => !dm w) * (n + 1) + (n - (a + 1)))
            case measure => exact HS2.out.2.2
            case rel => exact ⟨a + 1, _, G, dm, by omega, by go_num, rfl, hmat, hd, hR, hBw, Lib.hid ⟨HS2.out.1, HS2.out.2.1, Nat.le_refl _⟩⟩
          | false =>
            rw [hda] at cd
            cases hrd : readyP n R dm a with
            | false =>
              rw [hrd] at HFR
              have HS2 := Lib.hid (HSK.out (by rw [hrd, Bool.and_false]))
              clear HSK HNX hda hrd
              go_wp2_with fail
              refine HFR.mono ?_; rintro e w5 ⟨rfl, rfl⟩
              clear HFR
              go_wp2
              go_roundg (cnt n (fun w => !dm w) * (n + 1) + (n - (a + 1)))
              case measure => exact HS2.out.2.2
              case rel => exact ⟨a + 1, _, G, dm, by omega, by go_num, rfl, hmat, hd, hR, hBw, Lib.hid ⟨HS2.out.1, HS2.out.2.1, Nat.le_refl _⟩⟩
            | true =>
              rw [hrd] at HFR
              have HN2 := Lib.hid (HNX.out (by rw [hda, hrd]; rfl))
              clear HSK HNX hda hrd
              go_wp2_with fail
              refine HFR.mono ?_; rintro e w5 ⟨rfl, rfl⟩
              clear HFR cd
              obtain ⟨p, hp⟩ : ∃ p : Nat → Bool, p = fun x => x == a || (R a x && R x a) := ⟨_, rfl⟩
              have HE : Hid (groupP n R a = (List.range n).filter p) := by show _ = _; rw [hp]; rfl
              have HPP := Lib.hid (fun k => congrFun hp k)
              clear hp
              generalize w5 = wg at *
              have HMAT := Lib.hid hmat
              have HDD := Lib.hid hd
              have HDF : Hid (dm = fun z => dm z || (decide (z < 0) && p z)) := by show _ = _; funext z; simp
              go_wp2_with fail
              go_loopw [12, 13] (fun u i wr => ∃ (k : Nat) (q2 : Value) (dm2 : Nat → Bool), k ≤ n ∧ i = .int .i64 k ∧ q2 = u ∧ BoolsAt wr d n dm2 ∧ wr.ownsRow wg.heap.size 3 1 q2 ((List.range k).filter p).length (((List.range k).filter p).map iv) ∧ wg.grownBy wr (some d) ∧ Hid (dm2 = fun z => dm z || (decide (z < k) && p z))) (fun _ i _ => n - (intOf i).toNat)
              case atStart => exact ⟨0, _, dm, Nat.zero_le _, rfl, rfl, hd, World.ownsRow_nil _ _ _ _, ⟨rfl, rfl, rfl, Nat.le_refl _, fun _ _ _ => rfl⟩, HDF⟩
              case round =>
                obtain ⟨k, q2, dm2, hk, rfl, rfl, hd, hown, hgb, HD2⟩ := hrel
                clear hmat
                by_cases hltk : k < n
                · have hltkI : decide ((k : Int) < (n : Int)) = true := decide_eq_true (by omega)
                  have hmw := HMAT.out.grown HDD.out (Nat.le_refl _) hgb
                  obtain ⟨g1, b1, e1, cka, hbk⟩ := hmw.at hltk
                  subst e1
                  obtain ⟨g2, b2, e2, caa, hba⟩ := hmw.at hlt
                  injection e2 with e2
                  injection e2 with e2 _ _
                  subst e2
                  have ck := hbk.cell hlt
                  have ca := hba.cell hltk
                  have HS := Lib.hid (filter_succ p k)
                  have hpk := HPP.out k
                  have hfl := filter_le p k
                  have hBg := hgb.size
                  have HST : Hid (p k = true → (fun z => dm2 z || z == k) = fun z => dm z || (decide (z < k + 1) && p z)) := fun hpk => by
                    rw [HD2.out]
                    funext z
                    dsimp only
                    by_cases e : z = k
                    · subst e; simp [hpk]
                    · have h1 : (z < k + 1) ↔ (z < k) := by omega
                      have h2 : (z == k) = false := by rw [beq_eq_false_iff_ne]; exact e
                      simp only [h1, h2, Bool.or_false]
                  have HSF : Hid (p k = false → dm2 = fun z => dm z || (decide (z < k + 1) && p z)) := fun hpk => by
                    rw [HD2.out]
                    funext z
                    by_cases e : z = k
                    · subst e; simp [hpk]
                    · have h1 : (z < k + 1) ↔ (z < k) := by omega
                      simp only [h1]
                  clear hmw hbk hba HD2
                  generalize (List.range k).filter p = xs at *
                  by_cases hka : k = a
                  · have hkaI : ((k : Int) == (a : Int)) = true := by rw [beq_iff_eq]; omega
                    have hp1 : p k = true := by rw [hpk, hka]; simp
                    have HS := Lib.hid (HS.out.trans (by rw [if_pos hp1]))
                    have HS3 := Lib.hid (HST.out hp1)
                    clear hka hpk HST HSF cka caa ck ca hp1
                    go_wp2_with (at_builtin; refine wpList_append_own _ rfl _ _ 31 rfl wg.heap.size 3 j0 (.int .i64 0) 1 8 Tryd.underlying31 hj hj0 hj1 hj2 rfl (by decide) _ _ _ rfl (hown.alloc _) ⟨_, 0, none⟩ 1 1 [.int .i64 (k : Int)] rfl rfl ?c1 ?c2 ?c3 ?c4 ?c5 ?_)
                    try (case c1 => (intro j u hj; match j, hj with | 0, hj => (simp at hj; subst hj; simp [Addr.add])))
                    case c2 => first | rfl | (intro u hu; simp at hu; subst hu; rfl)
                    case c3 => unfold maxLen; omega
                    case c4 => omega
                    case c5 => first | omega | (simp; omega)
                    intro v' w1 hown' hgrow _
                    have hg2 := gb_append hgb hown hgrow
                    have hd2 := hd.past hown hgrow
                    have hown2 : w1.ownsRow wg.heap.size 3 1 v' (xs ++ [k]).length ((xs ++ [k]).map iv) := by rw [List.map_append, List.length_append]; exact hown'
                    have f2 := hd2.frozen k
                    have c2 := hd2.cell hltk
                    have hP := Put.one w1 d k (.bool true)
                    have hset := hd2.set k
                    have hg3 := gb_put hg2 hP
                    have hown3 : (w1.setCell ⟨d, k, none⟩ (.bool true)).ownsRow wg.heap.size 3 1 v' (xs ++ [k]).length ((xs ++ [k]).map iv) := by
                      obtain ⟨cs, hb, _⟩ := hd2
                      exact hown2.kept (put_grown hP hP.zero) (own_far hown2 hb (by decide))
                    rw [← HS.out] at hown3
                    clear hown' hgrow hown hgb hd hg2 hown2 hP hd2
                    go_wp2
                    go_roundw
                    case rel => exact ⟨k + 1, _, _, by omega, by go_num, rfl, hset, hown3, hg3, HS3⟩
                    case measure => simp [intOf]; omega
                  · have hkaI : ((k : Int) == (a : Int)) = false := by rw [beq_eq_false_iff_ne]; omega
                    have hkaN : (k == a) = false := by rw [beq_eq_false_iff_ne]; exact hka
                    cases h1 : R k a with
                    | false =>
                      rw [h1] at ck
                      have hp0 : p k = false := by rw [hpk, hkaN, h1]; simp
                      have HS := Lib.hid (HS.out.trans (by rw [if_neg (by rw [hp0]; decide), List.append_nil]))
                      have HS3 := Lib.hid (HSF.out hp0)
                      clear hka hkaN hpk HST HSF hp0 h1
                      rw [← HS.out] at hown
                      go_wp2
                      go_roundw
                      case rel => exact ⟨k + 1, _, _, by omega, by go_num, rfl, hd, hown, hgb, HS3⟩
                      case measure => simp [intOf]; omega
                    | true =>
                      rw [h1] at ck
                      cases h2 : R a k with
                      | false =>
                        rw [h2] at ca
                        have hp0 : p k = false := by rw [hpk, hkaN, h2]; simp
                        have HS := Lib.hid (HS.out.trans (by rw [if_neg (by rw [hp0]; decide), List.append_nil]))
                        have HS3 := Lib.hid (HSF.out hp0)
                        clear hka hkaN hpk HST HSF hp0 h1 h2
                        rw [← HS.out] at hown
                        go_wp2
                        go_roundw
                        case rel => exact ⟨k + 1, _, _, by omega, by go_num, rfl, hd, hown, hgb, HS3⟩
                        case measure => simp [intOf]; omega
                      | true =>
                        rw [h2] at ca
                        have hp1 : p k = true := by rw [hpk, hkaN, h1, h2]; rfl
                        have HS := Lib.hid (HS.out.trans (by rw [if_pos hp1]))
                        have HS3 := Lib.hid (HST.out hp1)
                        clear hka hkaN hpk HST HSF hp1 h1 h2
                        go_wp2_with (at_builtin; refine wpList_append_own _ rfl _ _ 31 rfl wg.heap.size 3 j0 (.int .i64 0) 1 8 Tryd.underlying31 hj hj0 hj1 hj2 rfl (by decide) _ _ _ rfl (hown.alloc _) ⟨_, 0, none⟩ 1 1 [.int .i64 (k : Int)] rfl rfl ?c1 ?c2 ?c3 ?c4 ?c5 ?_)
                        try (case c1 => (intro j u hj; match j, hj with | 0, hj => (simp at hj; subst hj; simp [Addr.add])))
                        case c2 => first | rfl | (intro u hu; simp at hu; subst hu; rfl)
                        case c3 => unfold maxLen; omega
                        case c4 => omega
                        case c5 => first | omega | (simp; omega)
                        intro v' w1 hown' hgrow _
                        have hg2 := gb_append hgb hown hgrow
                        have hd2 := hd.past hown hgrow
                        have hown2 : w1.ownsRow wg.heap.size 3 1 v' (xs ++ [k]).length ((xs ++ [k]).map iv) := by rw [List.map_append, List.length_append]; exact hown'
                        have f2 := hd2.frozen k
                        have c2 := hd2.cell hltk
                        have hP := Put.one w1 d k (.bool true)
                        have hset := hd2.set k
                        have hg3 := gb_put hg2 hP
                        have hown3 : (w1.setCell ⟨d, k, none⟩ (.bool true)).ownsRow wg.heap.size 3 1 v' (xs ++ [k]).length ((xs ++ [k]).map iv) := by
                          obtain ⟨cs, hb, _⟩ := hd2
                          exact hown2.kept (put_grown hP hP.zero) (own_far hown2 hb (by decide))
                        rw [← HS.out] at hown3
                        clear hown' hgrow hown hgb hd hg2 hown2 hP hd2
                        go_wp2
                        go_roundw
                        case rel => exact ⟨k + 1, _, _, by omega, by go_num, rfl, hset, hown3, hg3, HS3⟩
                        case measure => simp [intOf]; omega
                · have e : n = k := by omega
                  subst e
                  have hm2 : BoolsAt wr d n (markP dm (groupP n R a)) := hd.congr fun z hz => by
                    rw [HD2.out]
                    unfold markP
                    have hc : (groupP n R a).contains z = p z := by
                      rw [Bool.eq_iff_iff, List.contains_iff_mem, HE.out, List.mem_filter, List.mem_range]
                      exact ⟨fun h => h.2, fun h => ⟨hz, h⟩⟩
                    rw [hc]
                    simp [hz]
                  rw [← HE.out] at hown
                  have hr : RowI wr q2 (groupP n R a) := World.ownsRow.mono hown (Nat.zero_le _)
                  have hmw := HMAT.out.grown HDD.out (Nat.le_refl _) hgb
                  have hRw := hR.gb HDD.out hgb
                  have hBw2 : Below w.heap.size w wr := hBw.grown hgb hBw.size (fun k hk => by injection hk; omega)
                  have hnlk : ¬ (n : Int) < (n : Int) := by omega
                  have hGl := HGL.out
                  have hs0 := hBw2.size
                  clear hown hgb hR hBw hd HDF HE HPP HMAT HDD HD2
                  obtain ⟨rp, rc, rfl⟩ := hr.slice
                  obtain ⟨vs, hvl, hown, heach⟩ := hRw
                  generalize groupP n R a = xs at *
                  go_wp2_with (at_builtin; refine wpList_append_own _ rfl _ _ 25 rfl w.heap.size 31 l0 (.slice none 0 0) 1 24 Tryd.underlying25 hl hl0 hl1 hl2 rfl (by decide) _ _ _ rfl (hown.alloc _) ⟨_, 0, none⟩ 1 1 [.slice rp xs.length rc] rfl rfl ?d1 ?d2 ?d3 ?d4 ?d5 ?_)
                  try (case d1 => (intro j u hj; match j, hj with | 0, hj => (simp at hj; subst hj; simp [Addr.add])))
                  case d2 => first | rfl | (intro u hu; simp at hu; subst hu; rfl)
                  case d3 => unfold maxLen; omega
                  case d4 => omega
                  case d5 => first | omega | (simp; omega)
                  intro v' w1 hown' hgrow _
                  have R2 := OwnR.push hvl hown heach hr (by rw [hvl]; exact hown') hgrow
                  have hm3 := hm2.past hown hgrow
                  have hmat3 := hmw.past hown hgrow
                  have hB3 : Below w.heap.size w w1 := (hBw2.alloc hBw2.size _).grown hgrow (by simp; exact Nat.le_succ_of_le hBw2.size) (fun k hk => (hown.lt k hk).1)
                  clear hown' hgrow hown heach hm2 hmw hBw2
                  go_wp2
                  go_roundg (cnt n (fun w => !(markP dm xs) w) * (n + 1) + n)
                  case measure => exact HN2.out.2
                  case rel => exact ⟨0, _, G ++ [xs], markP dm xs, by omega, by go_num, rfl, hmat3, hm3, R2, hB3, Lib.hid ⟨HN2.out.1, fun j hj => absurd hj (Nat.not_lt_zero _), by rw [Nat.sub_zero]; exact Nat.le_refl _⟩⟩
        · have HE : Hid (allP n R = G) := by
            show _ = _
            have h1 := HI.out.1
            rw [groups_stop (find_miss fun j hj => HI.out.2.1 j (by omega)), List.append_nil] at h1
            exact h1
          have hRR := hR.rows
          rw [← HE.out] at hRR
          clear HI HE hR
          have hnl2 : ¬ (a : Int) < (n : Int) := by omega
          go_wp2
          go_ret2
          exact ⟨_, rfl, hRR, hBw⟩
end
end Go.Proofs.YtbkiamecdangpaaDoor.N13
