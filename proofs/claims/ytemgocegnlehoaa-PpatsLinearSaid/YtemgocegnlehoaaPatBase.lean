/- Patterns that are read: what is wanted of the layers below. -/
import Derived.Test.YtemgocegnlehoaaPatSpec
import Derived.Test.YtemgocegnlehoaaPtyA
import Derived.Test.YtemgocegnlehoaaPtyT
import Derived.Test.YtemgocegnlehoaaPtySize
import Derived.Test.YtemgocegnlehoaaPtyD
namespace Go.Proofs.Ytemgocegnlehoaa.N8
open Go.RowKit N5 N6 N7
theorem at7_putb {B : Nat} {v : Value} {c : Cu} {w W W' : World} {b : Nat} (h : At7 B v c w W) (hb : w.heap.size ≤ b) (hP : Put b W W') : At7 B v c w W' := by
  have hlt := h.lt
  refine ⟨h.cur.kept hP.grown (by omega) (fun h0 g o n cap hv e => ?_), ⟨hP.grown.os.trans h.grown.os, hP.grown.tape.trans h.grown.tape, hP.grown.output.trans h.grown.output, Nat.le_trans h.grown.size hP.size, fun k hk hne => (hP.other k (by omega)).trans (h.grown.block k hk hne)⟩, hlt, h.far⟩
  obtain ⟨a, cap', h1, _, _⟩ := h.cur.row
  have hv' := hv
  rw [h1] at hv
  injection hv with _ e2 _
  have := h.far g o n cap hv' (fun e0 => h0 (List.eq_nil_of_length_eq_zero (by omega)))
  omega
end Go.Proofs.Ytemgocegnlehoaa.N8
