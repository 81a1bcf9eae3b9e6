import Derived.Test.YtdjomhbmhooceaaGreatE40
import Derived.Test.YtdjomhbmhooceaaGreatE30
set_option linter.unusedVariables false
set_option linter.unusedSimpArgs false
namespace Go.Proofs.YtdjomhbmhooceaaGreat.N8
open Go.RowKit N5 N6 N7
attribute [local go_sem] xG xE
def cC (n m : Nat) : Prop := ∀ (c : Cu) (W : World) (x : Value), 200 <= c.nest + m \/ c.err ≠ 0 -> xA c -> zF n W x c -> n <= W.heap.size -> Calls Tryz.prog 104 #[x] W (yD n (atR m c) W)
theorem refat_any (n : Nat) : ∀ m, cC n m
 | 0 => fun c W x h hok hx hn => by
  have he : c.enter.err ≠ 0 := by
   by_cases he : c.enters = true
   ·
    obtain ⟨h1, h2⟩ := yF.1 he;have := h.resolve_right fun q => q h1
    omega
   ·
    exact (xK he).1
  have hb : ((xZ (atR 0) c.enter).1.leave, (xZ (atR 0) c.enter).2) = atR 0 c := by
   rw [uB he];dsimp only;rw [yU he];rfl
  rw [<- hb];exact uS (k := 0) hx hn hok rfl (fun d W x hd hk hok hx hn => vF hx hn hok (fine_at 0) (fun q => absurd q (hd he)) hk) (qD 0) (fun c hk h => uM (pair_whole 0) c hk h) (.inr he)
 | m + 1 => fun c W x h hok hx hn => by
  have IH := refat_any n m;exact uS (k := m) hx hn hok rfl (fun d W x hd hk hok hx hn => vF hx hn hok (fine_at m) (fun _ c W x h1 h2 h3 h4 => IH c W x h1 h2 h3 h4) hk) (qD m) (fun c hk h => uM (pair_whole m) c hk h)
   (by
    by_cases he : c.enters = true
    ·
     have h1 := (yF.1 he).1;rw [yY he];exact .inl (by have := h.resolve_right fun q => q h1; show 200 <= c.nest + 1 + (m + 1); omega)
    ·
     exact .inr (xK he).1)
end Go.Proofs.YtdjomhbmhooceaaGreat.N8
