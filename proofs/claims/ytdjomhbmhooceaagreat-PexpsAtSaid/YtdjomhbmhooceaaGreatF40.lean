import Derived.Test.YtdjomhbmhooceaaGreatF39
import Derived.Test.YtdjomhbmhooceaaGreatF29
set_option linter.unusedVariables false
set_option linter.unusedSimpArgs false
namespace Go.Proofs.YtdjomhbmhooceaaGreat.N8
open Go.RowKit N5 N6 N7
attribute [local go_sem] xB xA
def eC (n m : Nat) : Prop := ∀ (c : Cu) (W : World) (x : Value), 200 <= c.nest + m \/ c.err ≠ 0 -> yZ c -> zF n W x c -> n <= W.heap.size -> Calls Tryz.prog 104 #[x] W (yE n (atR m c) W)
theorem refat_any (n : Nat) : ∀ m, eC n m
 | 0 => fun c W x h hok hx hn => by
  have he : c.enter.err ≠ 0 := by
   by_cases he : c.enters = true
   ·
    obtain ⟨h1, h2⟩ := yF.1 he;have := h.resolve_right fun q => q h1
    omega
   ·
    exact (xC he).1
  have hb : ((xV (atR 0) c.enter).1.leave, (xV (atR 0) c.enter).2) = atR 0 c := by
   rw [vN he];dsimp only;rw [yO he];rfl
  rw [<- hb];exact uB (k := 0) hx hn hok rfl (fun d W x hd hk hok hx hn => wT hx hn hok (fine_at 0) (fun q => absurd q (hd he)) hk) (rK 0) (fun c hk h => vV (pair_whole 0) c hk h) (.inr he)
 | m + 1 => fun c W x h hok hx hn => by
  have IH := refat_any n m;exact uB (k := m) hx hn hok rfl (fun d W x hd hk hok hx hn => wT hx hn hok (fine_at m) (fun _ c W x h1 h2 h3 h4 => IH c W x h1 h2 h3 h4) hk) (rK m) (fun c hk h => vV (pair_whole m) c hk h)
   (by
    by_cases he : c.enters = true
    ·
     have h1 := (yF.1 he).1;rw [yR he];exact .inl (by have := h.resolve_right fun q => q h1; show 200 <= c.nest + 1 + (m + 1); omega)
    ·
     exact .inr (xC he).1)
end Go.Proofs.YtdjomhbmhooceaaGreat.N8
