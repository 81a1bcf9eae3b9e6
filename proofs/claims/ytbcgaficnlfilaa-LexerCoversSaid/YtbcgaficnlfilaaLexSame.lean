/- The contract of the document's own Same on two rows of equal length. -/
import Derived.Test.YtbcgaficnlfilaaLexJust
namespace Go.Proofs.Ytbcgaficnlfilaa
open Go.RowKit

def sameT (x y : Tk) : Bool := decide (x.kind = y.kind) && decide (x.num = y.num) && decide (x.text = y.text)
def sameL : List Tk → List Tk → Bool
  | [], [] => true
  | x :: r, y :: q => sameT x y && sameL r q
  | _, _ => false
/-- a word lies at a place -/
def TkAt (w : World) (g o j : Nat) (t : Tk) : Prop :=
  w.cell? ⟨g, o + j * 4, none⟩ = some (.int .i64 t.kind) ∧ w.cell? ⟨g, o + j * 4 + 1, none⟩ = some (.int .i64 t.pos) ∧ w.cell? ⟨g, o + j * 4 + 2, none⟩ = some (.int .i64 t.num) ∧ w.cell? ⟨g, o + j * 4 + 3, none⟩ = some (.string ⟨t.text.toArray⟩)
theorem TkAt.below {w w' : World} {g o j : Nat} {t : Tk} (h : TkAt w g o j t) (hB : Below w.heap.size w w') (l : g < w.heap.size) : TkAt w' g o j t :=
  ⟨(hB.cell (p := ⟨g, o + j * 4, none⟩) l).trans h.1, (hB.cell (p := ⟨g, o + j * 4 + 1, none⟩) l).trans h.2.1, (hB.cell (p := ⟨g, o + j * 4 + 2, none⟩) l).trans h.2.2.1, (hB.cell (p := ⟨g, o + j * 4 + 3, none⟩) l).trans h.2.2.2⟩
theorem sameL_all : ∀ (xs ys : List Tk), xs.length = ys.length → (∀ j (h : j < xs.length) (h' : j < ys.length), sameT xs[j] ys[j] = true) → sameL xs ys = true
  | [], [], _, _ => rfl
  | x :: r, y :: q, hl, h => by
    have h0 : sameT x y = true := h 0 (by simp) (by simp)
    rw [sameL, h0, sameL_all r q (by simpa using hl) (fun j h1 h2 => h (j + 1) (by simpa using h1) (by simpa using h2))]; rfl
  | [], _ :: _, hl, _ => by simp at hl
  | _ :: _, [], hl, _ => by simp at hl
theorem sameL_not : ∀ (xs ys : List Tk) (j : Nat) (h : j < xs.length) (h' : j < ys.length), sameT xs[j] ys[j] = false → sameL xs ys = false
  | x :: r, y :: q, 0, _, _, he => by rw [sameL]; simp at he; rw [he]; rfl
  | x :: r, y :: q, j + 1, h, h', he => by
    rw [sameL, sameL_not r q j (by simpa using h) (by simpa using h') (by simpa using he), Bool.and_false]
theorem sameT_cases (x y : Tk) : (sameT x y = true ∧ (x.kind != y.kind) = false ∧ (x.num != y.num) = false ∧ ((⟨x.text.toArray⟩ : ByteArray).toList == (⟨y.text.toArray⟩ : ByteArray).toList) = true) ∨
    (sameT x y = false ∧ ((x.kind != y.kind) = true ∨ ((x.kind != y.kind) = false ∧ (x.num != y.num) = true) ∨ ((x.kind != y.kind) = false ∧ (x.num != y.num) = false ∧ ((⟨x.text.toArray⟩ : ByteArray).toList == (⟨y.text.toArray⟩ : ByteArray).toList) = false))) := by
  rw [Lib.toList_data, Lib.toList_data]
  unfold sameT
  by_cases h1 : x.kind = y.kind
  · by_cases h2 : x.num = y.num
    · by_cases h3 : x.text = y.text
      · left; simp [h1, h2, h3]
      · right; refine ⟨by simp [h3], .inr (.inr ⟨by simp [h1], by simp [h2], ?_⟩)⟩
        rw [beq_eq_false_iff_ne]; simpa using h3
    · right; exact ⟨by simp [h2], .inr (.inl ⟨by simp [h1], by simp [h2]⟩)⟩
  · right; exact ⟨by simp [h1], .inl (by simp [h1])⟩

set_option maxHeartbeats 8000000 in
theorem refsame_any (g1 o1 c1 g2 o2 c2 n : Nat) (xs ys : List Tk) (w : World) (hn : n = xs.length) (hm : n = ys.length) (hn9 : n ≤ 1000000000) (l1 : g1 < w.heap.size) (l2 : g2 < w.heap.size)
    (h1 : ∀ j (hj : j < xs.length), TkAt w g1 o1 j xs[j]) (h2 : ∀ j (hj : j < ys.length), TkAt w g2 o2 j ys[j]) :
    Calls Try.prog 15 #[.slice (some ⟨g1, o1, none⟩) n c1, .slice (some ⟨g2, o2, none⟩) n c2] w (RunsTo (sameL xs ys) w) := by
  have HN : Hid (n = xs.length) := hn
  have HM : Hid (n = ys.length) := hm
  have H1 : Hid (∀ j (hj : j < xs.length), TkAt w g1 o1 j xs[j]) := h1
  have H2 : Hid (∀ j (hj : j < ys.length), TkAt w g2 o2 j ys[j]) := h2
  clear hn hm h1 h2
  go_enter Try.func15, Try.ntmps15
  go_wp2_with fail
  go_loopg [5] n (fun g i wx => ∃ k : Nat, k + g = n ∧ i = .int .i64 (k : Int) ∧ Hid (∀ j (h : j < xs.length) (h' : j < ys.length), j < k → sameT xs[j] ys[j] = true) ∧ Below w.heap.size w wx)
  case atStart => exact ⟨0, by omega, rfl, fun j _ _ h => absurd h (Nat.not_lt_zero _), Below.refl _ _⟩
  case round =>
    obtain ⟨k, hkg, rfl, HA, hB⟩ := hrel
    cases gk with
    | zero =>
      obtain rfl : k = n := by omega
      have HS : Hid (sameL xs ys = true) := sameL_all xs ys (by rw [← HN.out, ← HM.out]) (fun j h h' => HA.out j h h' (by rw [HN.out]; exact h))
      go_wp2_with fail
      try rw [Exit.noGoto_ret]
      go_ret
      exact ⟨by rw [HS.out]; rfl, hB⟩
    | succ g =>
      have hlt : k < n := by omega
      have hlt' : (k : Int) < n := by omega
      have hkl : k < xs.length := by rw [← HN.out]; exact hlt
      have hkm : k < ys.length := by rw [← HM.out]; exact hlt
      obtain ⟨a0, a1, a2, a3⟩ := (H1.out k hkl).below hB l1
      obtain ⟨b0, b1, b2, b3⟩ := (H2.out k hkm).below hB l2
      rcases sameT_cases xs[k] ys[k] with ⟨e, d1, d2, d3⟩ | ⟨e, d⟩
      · have HN2 : Hid (∀ j (h : j < xs.length) (h' : j < ys.length), j < k + 1 → sameT xs[j] ys[j] = true) := fun j h h' hj => by
          by_cases hjk : j = k
          · subst hjk; exact e
          · exact HA.out j h h' (by omega)
        clear e
        generalize xs[k].kind = x0 at *
        generalize xs[k].num = x2 at *
        generalize (⟨xs[k].text.toArray⟩ : ByteArray) = x3 at *
        generalize ys[k].kind = y0 at *
        generalize ys[k].num = y2 at *
        generalize (⟨ys[k].text.toArray⟩ : ByteArray) = y3 at *
        clear hkl hkm a1 b1
        go_wp2_with fail
        go_quiet (fail)
        go_wp2_with fail
        go_roundg g
        case measure => omega
        case rel => exact ⟨k + 1, by omega, by go_num, HN2, below_drewN hB _⟩
      · have HS : Hid (sameL xs ys = false) := sameL_not xs ys k hkl hkm e
        clear e
        generalize xs[k].kind = x0 at *
        generalize xs[k].num = x2 at *
        generalize (⟨xs[k].text.toArray⟩ : ByteArray) = x3 at *
        generalize ys[k].kind = y0 at *
        generalize ys[k].num = y2 at *
        generalize (⟨ys[k].text.toArray⟩ : ByteArray) = y3 at *
        clear hkl hkm a1 b1
        rcases d with d1 | ⟨d1, d2⟩ | ⟨d1, d2, d3⟩ <;>
        · go_wp2_with fail
          go_quiet (fail)
          go_wp2_with fail
          try rw [Exit.noGoto_ret]
          go_ret
          exact ⟨by rw [HS.out]; rfl, below_drewN hB _⟩
end Go.Proofs.Ytbcgaficnlfilaa
