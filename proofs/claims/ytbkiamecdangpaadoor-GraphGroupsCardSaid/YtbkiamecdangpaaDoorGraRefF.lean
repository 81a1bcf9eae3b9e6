/- The document's side: free. -/
import Derived.Test.YtbkiamecdangpaaDoorGraRefM
set_option linter.unusedVariables false
set_option linter.unusedSimpArgs false
namespace Go.Proofs.YtbkiamecdangpaaDoor.N13
open Go.RowKit
section
variable {w w' w1 : World} {v : Value} {n B : Nat} {R : Nat → Nat → Bool} {dm : Nat → Bool}
/-- a row of rows of bools, in blocks below B -/
def MatAt (w : World) (B : Nat) (v : Value) (k n : Nat) (R : Nat → Nat → Bool) : Prop := ∃ vs : List Value, vs.length = k ∧ w.ownsRow 0 56 1 v vs.length vs ∧ ∀ (i : Nat), i < k → ∃ b, vs[i]? = some (.slice (some ⟨b, 0, none⟩) n n) ∧ b < B ∧ BoolsAt w b n (R i)
theorem MatAt.later (h : MatAt w B v n n R) (hB : Below w.heap.size w w') : MatAt w' B v n n R := by
  obtain ⟨vs, hl, ho, he⟩ := h
  refine ⟨vs, hl, own_later ho hB, fun i hi => ?_⟩
  obtain ⟨b, h1, h2, h3⟩ := he i hi
  exact ⟨b, h1, h2, h3.later hB⟩
theorem MatAt.grown {d m : Nat} (h : MatAt w B v n n R) (hd : BoolsAt w d m dm) (hB : B ≤ d) (hg : w.grownBy w' (some d)) : MatAt w' B v n n R := by
  obtain ⟨vs, hl, ho, he⟩ := h
  obtain ⟨cs, hb, _⟩ := hd
  refine ⟨vs, hl, ho.kept hg (own_far ho hb (by decide)), fun i hi => ?_⟩
  obtain ⟨b, h1, h2, h3⟩ := he i hi
  exact ⟨b, h1, h2, h3.same (hg.block b h3.lt (fun e => by injection e; omega))⟩
theorem MatAt.slice (h : MatAt w B v n n R) : ∃ p cap, v = .slice p n cap := by
  obtain ⟨vs, hl, ho, _⟩ := h
  rcases ho.2 with ⟨rfl, h0⟩ | ⟨g, cap, cur, rfl, _⟩
  · exact ⟨none, 0, by rw [← hl, h0]⟩
  · exact ⟨_, _, by rw [← hl]⟩
theorem MatAt.at {p : Option Addr} {l cap k : Nat} (h : MatAt w B (.slice p l cap) n n R) (hk : k < n) : ∃ g b, p = some ⟨g, 0, none⟩ ∧ w.cell? ⟨g, k, none⟩ = some (.slice (some ⟨b, 0, none⟩) n n) ∧ BoolsAt w b n (R k) := by
  obtain ⟨vs, hl, ho, he⟩ := h
  rcases ho.2 with ⟨e, h0⟩ | ⟨g, c, cur, e, _⟩
  · omega
  · injection e with e1 e2 e3
    subst e1
    obtain ⟨b, h1, -, h3⟩ := he k hk
    refine ⟨g, b, rfl, ?_, h3⟩
    have := ho.cells (g := g) rfl k _ h1
    rw [Addr.add_lit, Nat.zero_add] at this
    exact this
set_option maxRecDepth 100000 in
set_option maxHeartbeats 4000000 in
theorem free_any {a d : Nat} (h : MatAt w B v n n R) (hd : BoolsAt w d n dm) (hn : n ≤ 40) (ha : a < n) : Calls Tryd.prog 27 #[v, .slice (some ⟨d, 0, none⟩) n n, .int .i64 a] w (fun e w' => e = .returned (.bool (readyP n R dm a)) ∧ w' = w) := by
  obtain ⟨p, cap, rfl⟩ := h.slice
  obtain ⟨g, b, rfl, hc, hb⟩ := h.at ha
  have HH := Lib.hid h
  have HD := Lib.hid hd
  have HB := Lib.hid hb
  have HY : Hid ((∀ j, j < n → (R a j = true → dm j = false → R j a = true)) → readyP n R dm a = true) := fun q => ready_iff.2 q
  have HN : Hid (∀ j, j < n → R a j = true → dm j = false → R j a = false → readyP n R dm a = false) := fun j hj h1 h2 h3 => by
    cases hr : readyP n R dm a with
    | false => rfl
    | true => have := ready_iff.1 hr j hj h1 h2; rw [h3] at this; cases this
  clear h hd hb
  go_enter Tryd.func27, Tryd.ntmps27
  go_wp2_with fail
  go_loopw [7] (fun i wr => ∃ k : Nat, k ≤ n ∧ i = .int .i64 k ∧ w = wr ∧ Hid (∀ j, j < k → (R a j = true → dm j = false → R j a = true))) (fun i _ => n - (intOf i).toNat)
  case atStart => exact ⟨0, Nat.zero_le _, rfl, rfl, Lib.hid fun j hj => absurd hj (Nat.not_lt_zero _)⟩
  case round =>
    obtain ⟨k, hk, rfl, rfl, HI⟩ := hrel
    by_cases hlt : k < n
    · have hltI : decide ((k : Int) < (n : Int)) = true := decide_eq_true (by omega)
      have c1 := HB.out.cell hlt
      have c2 := HD.out.cell hlt
      obtain ⟨g', b2, e, hc2, hb2⟩ := HH.out.at hlt
      injection e with e
      injection e with e _ _
      subst e
      have c3 := hb2.cell ha
      have HS : Hid ((R a k = true → dm k = false → R k a = true) → ∀ j, j < k + 1 → (R a j = true → dm j = false → R j a = true)) := fun q j hj => by
        by_cases e : j = k
        · subst e; exact q
        · exact HI.out j (by omega)
      have HF := Lib.hid (HN.out k hlt)
      clear hb2 HI
      cases h1 : R a k with
      | false =>
        rw [h1] at c1
        have HS := Lib.hid (HS.out (fun q => by rw [h1] at q; cases q))
        clear HF h1
        go_wp2
        go_roundw
        case rel => exact ⟨k + 1, by omega, by go_num, trivial, HS⟩
        case measure => simp [intOf]; omega
      | true =>
        rw [h1] at c1
        cases h2 : dm k with
        | true =>
          rw [h2] at c2
          have HS := Lib.hid (HS.out (fun _ q => by rw [h2] at q; cases q))
          clear HF h1 h2
          go_wp2
          go_roundw
          case rel => exact ⟨k + 1, by omega, by go_num, trivial, HS⟩
          case measure => simp [intOf]; omega
        | false =>
          rw [h2] at c2
          cases h3 : R k a with
          | true =>
            rw [h3] at c3
            have HS := Lib.hid (HS.out (fun _ _ => h3))
            clear HF h1 h2 h3
            go_wp2
            go_roundw
            case rel => exact ⟨k + 1, by omega, by go_num, trivial, HS⟩
            case measure => simp [intOf]; omega
          | false =>
            rw [h3] at c3
            have HF := Lib.hid (HF.out h1 h2 h3)
            clear HS h1 h2 h3
            go_wp2
            go_ret
            exact ⟨by rw [HF.out]; rfl, rfl⟩
    · have HF := Lib.hid (HY.out fun j hj => HI.out j (by omega))
      have hnl : ¬ (k : Int) < (n : Int) := by omega
      clear HI
      go_wp2
      go_ret
      exact ⟨by rw [HF.out]; rfl, rfl⟩
end
end Go.Proofs.YtbkiamecdangpaaDoor.N13
