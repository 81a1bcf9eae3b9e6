/- The document's readers: types, at every depth. -/
import Derived.Test.YtlammclbnihopaaPtyRefC
import Derived.Test.YtlammclbnihopaaPtyRefD
namespace Go.Proofs.Ytlammclbnihopaa.N7
open Go.RowKit N5 N6

theorem atomR_stuck {wr : Cu → Cu × Nd} {c : Cu} (h : c.err ≠ 0) : atomR wr c = (c, zNd) := by unfold atomR; rw [if_pos h]
theorem rowR_stuck {wr : Cu → Cu × Nd} {c : Cu} (h : c.err ≠ 0) : rowR wr c = (c, zNd) := by
  unfold rowR
  rw [if_neg (by rw [peek_stuck h]; decide)]
  exact atomR_stuck h
theorem fine_at (m : Nat) (c : Cu) (h : 200 ≤ c.nest + m ∨ c.err ≠ 0) : Fine c (atR m c).1 := by
  by_cases he : c.err = 0
  · exact (pair_whole m c (h.resolve_right fun q => q he)).fine
  · rw [atR_stuck m he]; exact .refl c
theorem fine_atom (m : Nat) (c : Cu) (h : 200 ≤ c.nest + (m + 1) ∨ c.err ≠ 0) : Fine c (atomR (atR m) c).1 := by
  by_cases he : c.err = 0
  · exact (pair_atom (pair_whole m) c (h.resolve_right fun q => q he)).fine
  · rw [atomR_stuck he]; exact .refl c
theorem fine_row (m : Nat) (c : Cu) (h : 200 ≤ c.nest + (m + 1) ∨ c.err ≠ 0) : Fine c (rowR (atR m) c).1 := by
  by_cases he : c.err = 0
  · exact (pair_row (pair_whole m) c (h.resolve_right fun q => q he)).fine
  · rw [rowR_stuck he]; exact .refl c
theorem enter_more {c : Cu} {m : Nat} (h : 200 ≤ c.nest + m ∨ c.err ≠ 0) : 200 ≤ c.enter.nest + (m + 1) ∨ c.enter.err ≠ 0 := by
  by_cases he : c.enters = true
  · have h1 := (enters_iff.1 he).1
    rw [enter_of he]
    exact .inl (by have := h.resolve_right fun q => q h1; show 200 ≤ c.nest + 1 + (m + 1); omega)
  · exact .inr (enter_not he).1
theorem atR_body (m : Nat) (c : Cu) : atR (m + 1) c = atBody (rowR (atR m) c.enter) (atR m) := rfl
def AtSpec (n m : Nat) : Prop := ∀ (c : Cu) (W : World) (x : Value), 200 ≤ c.nest + m ∨ c.err ≠ 0 → CuOk c → RefIs n W x c → n ≤ W.heap.size → Calls Try.prog 21 #[x] W (RefRead n (atR m c) W)
theorem refat_any (n : Nat) : ∀ m, AtSpec n m
  | 0 => fun c W x h hok hx hn => by
    have he : c.enter.err ≠ 0 := by
      by_cases he : c.enters = true
      · obtain ⟨h1, h2⟩ := enters_iff.1 he
        have := h.resolve_right fun q => q h1
        omega
      · exact (enter_not he).1
    have hb : atBody (rowR (atR 0) c.enter) (atR 0) = atR 0 c := by
      rw [rowR_stuck he]
      unfold atBody
      dsimp only
      rw [is_stuck he, leave_stuck he]
      rfl
    rw [← hb]
    refine refat_body hx hn hok (fun W x hx hn => refrow_any hx hn (ok_enter hok) (fine_at 0) (fine_atom 0) (fun c hk h => atom_at (pair_whole 0) c hk h) (fun q => absurd q he) (.inr he)) ?_ (fun q => ?_) (fun q => ?_)
    · rw [rowR_stuck he]; exact ok_enter hok
    · rw [rowR_stuck he, is_stuck he] at q; exact absurd q (by decide)
    · rw [rowR_stuck he, is_stuck he] at q; exact absurd q (by decide)
  | m + 1 => fun c W x h hok hx hn => by
    have IH := refat_any n m
    rw [atR_body]
    have hc : 200 ≤ c.enter.nest + (m + 1) ∨ c.enter.err ≠ 0 := by
      by_cases he : c.enters = true
      · have h1 := (enters_iff.1 he).1
        rw [enter_of he]
        exact .inl (by have := h.resolve_right fun q => q h1; show 200 ≤ c.nest + 1 + (m + 1); omega)
      · exact .inr (enter_not he).1
    have hf := fine_row m c.enter hc
    have ht : (rowR (atR m) c.enter).1.is [45, 62] = true → 200 ≤ ((rowR (atR m) c.enter).1.take [45, 62]).nest + m ∨ ((rowR (atR m) c.enter).1.take [45, 62]).err ≠ 0 := fun q => by
      have e1 := is_err q
      have e2 := hf.err e1
      have e3 : c.enters = true := Decidable.byContradiction fun k => (enter_not k).1 e2
      have h1 := (enters_iff.1 e3).1
      refine .inl ?_
      rw [(fine_take _ _).nest (by rw [take_err]; exact e1), hf.nest e1, enter_of e3]
      have := h.resolve_right fun q => q h1
      show 200 ≤ c.nest + 1 + m
      omega
    have ho : CuOk ((rowR (atR m) c.enter).1) := hf.ok (ok_enter hok)
    exact refat_body hx hn hok (fun W x hx hn => refrow_any hx hn (ok_enter hok) (fine_at m) (fine_atom m) (fun c hk h => atom_at (pair_whole m) c hk h) (fun _ c W x h1 h2 h3 h4 => IH c W x h1 h2 h3 h4) hc) ho
      (fun q W x hx hn => IH _ W x (ht q) ((fine_take _ _).ok ho) hx hn) (fun q => (fine_at m _ (ht q)).ok ((fine_take _ _).ok ho))
end Go.Proofs.Ytlammclbnihopaa.N7
