/- A word with its place. -/
import Derived.Test.YtemgocegnlehoaaRow
namespace Go.Proofs.Ytemgocegnlehoaa
open Go.RowKit
structure Tk where
  kind : Int
  pos : Int
  num : Int
  text : List UInt8
def Tk.val (t : Tk) : Value := .agg #[.int .i64 t.kind, .int .i64 t.pos, .int .i64 t.num, .string ⟨t.text.toArray⟩]
def Tk.cells (t : Tk) : List Value := [.int .i64 t.kind, .int .i64 t.pos, .int .i64 t.num, .string ⟨t.text.toArray⟩]
def zeroT : Tk := ⟨0, 0, 0, []⟩
end Go.Proofs.Ytemgocegnlehoaa
