/-
  QX5: JRText, side by side.
-/
import Derived.Test.YthklgpflaghojaaGreatDoorQX4
import Derived.Test.YthklgpflaghojaaGreatDoorQX1
import Derived.Lib.AppendStr
import Derived.Deep.RegionLaw
import Derived.Test.YthklgpflaghojaaGreatDoorQM

/-
  The document's text.
-/
namespace Go.Proofs.YthklgpflaghojaaGreatDoor
open Go.RowKit
theorem rune_len (r : Nat) : (Jq.runeBytes r).length ≤ 4 := by
  unfold Jq.runeBytes
  repeat' split
  all_goals simp
section
variable {ops : Array Oper} {rest : List Oper} {o : Oper} {a : Act} {Q : Exit → Act → World → Prop} {w : World} {K : Act → World → Prop} {E : Prop}
end
/-- What is kept of the call's own world while a text is read. -/
structure TextSt (w wr : World) (v : Value) (acc : List Nat) : Prop where
  below : Below w.heap.size w wr
  res : Lies wr w.heap.size 117 zero8
  row : wr.ownsRow (w.heap.size + 1) 5 1 v acc.length (u8s acc)
  bytes : ∀ x ∈ acc, x < 256
section
variable {w wr wr' : World} {v v' : Value} {acc q : List Nat}
theorem TextSt.on (h : TextSt w wr v acc) (hb : Below wr.heap.size wr wr') : TextSt w wr' v acc :=
  ⟨below_more h.below hb, h.res.below hb h.res.lt, own_below h.row hb, h.bytes⟩
theorem TextSt.grow (h : TextSt w wr v acc) (ho : wr'.ownsRow (w.heap.size + 1) 5 1 v' (acc.length + q.length) (u8s acc ++ u8s q)) (hg : wr.grownBy wr' v.ownBlock) (hq : ∀ x ∈ q, x < 256) : TextSt w wr' v' (acc ++ q) :=
  ⟨h.below.grown hg h.below.size (fun k e => by have := (h.row.lt k e).1; omega), h.res.grown hg (fun e => by have := (h.row.lt _ e.symm).1; omega), by rw [List.length_append, u8s_append]; exact ho, fun x hx => by
    rcases List.mem_append.1 hx with hx | hx
    · exact h.bytes x hx
    · exact hq x hx⟩
theorem TextSt.drew (h : TextSt w wr v acc) : TextSt w wr.drew v acc := ⟨h.below.drew, h.res, h.row, h.bytes⟩
end
end Go.Proofs.YthklgpflaghojaaGreatDoor
