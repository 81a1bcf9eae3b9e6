/- What a text's words are: plain functions on rows of bytes, and facts on them. -/
import Derived.Test.YtbcgaficnlfilaaNamesVar
namespace Go.Proofs.Ytbcgaficnlfilaa
open Go.RowKit

/-- a byte that stands between words -/
def whiteB (c : UInt8) : Bool := decide (c.toNat = 9) || decide (c.toNat = 10) || decide (c.toNat = 13) || decide (c.toNat = 32)
/-- how many bytes stand ahead of the next word; inside of a remark: -/
def skipL : Bool → List UInt8 → Nat
  | _, [] => 0
  | true, c :: r => 1 + skipL (!decide (c.toNat = 10)) r
  | false, c :: r => if whiteB c = true then 1 + skipL false r else if c.toNat = 45 ∧ r.head?.map (·.toNat) = some 45 then 1 + skipL true r else 0
theorem skipL_le : ∀ (l : List UInt8) (m : Bool), skipL m l ≤ l.length := by
  intro l
  induction l with
  | nil => intro m; cases m <;> exact Nat.le_refl _
  | cons c r ih =>
    intro m
    cases m with
    | true => rw [skipL]; have := ih (!decide (c.toNat = 10)); simp; omega
    | false =>
      rw [skipL]
      have h1 := ih false
      have h2 := ih true
      split
      · simp; omega
      · split <;> simp <;> omega

/-- the marks, longer ones first -/
def marks : List (List UInt8) := [[45, 62], [61, 62], [58, 58], [40], [41], [123], [125], [59], [44], [61], [124], [92]]
def markL (l : List UInt8) : List UInt8 := (marks.find? (·.isPrefixOf l)).getD []

/-- a word: its kind, its number, its text -/
structure Wd where
  kind : Int
  num : Int
  text : List UInt8
/-- the word that a text begins with, or the error -/
def nameKind (t : List UInt8) : Int := if t = [95] then 5 else if resB t = true then 4 else if conB t = true then 2 else 1
def wordL : List UInt8 → Except Int Wd
  | [] => .error 3
  | c :: r =>
    if isDig c = true then (if readE ((c :: r).takeWhile isDig) = 0 then .ok ⟨3, readN ((c :: r).takeWhile isDig), (c :: r).takeWhile isDig⟩ else .error (readE ((c :: r).takeWhile isDig)))
    else if smallB c = true ∨ greatB c = true then .ok ⟨nameKind ((c :: r).takeWhile onB), 0, (c :: r).takeWhile onB⟩
    else if markL (c :: r) = [] then .error 3
    else .ok ⟨5, 0, markL (c :: r)⟩
end Go.Proofs.Ytbcgaficnlfilaa
